/-
  What WithVote of the model answers: its contract. No statement is proved here.
-/
import Derived.Test.YtfbiblomblcheabWithVote
import Derived.Test.YtfbiblomblcheabMsgOk
import Derived.Deep.RegionLaw
set_option linter.unusedVariables false
set_option maxRecDepth 100000
namespace Go.Proofs.Ytfbiblomblcheab.V
open Go.RowKit Go.Proofs.Ytfbiblomblcheab.B

def insS (vs : List (Int × Int)) (k : Nat) (a b : Int) : List (Int × Int) := vs.take k ++ (a, b) :: vs.drop k
theorem insS_len (vs : List (Int × Int)) (k : Nat) (a b : Int) (hk : k ≤ vs.length) : (insS vs k a b).length = vs.length + 1 := by simp [insS]; omega
theorem insS_lo (vs : List (Int × Int)) (k j : Nat) (a b : Int) (hk : k ≤ vs.length) (hj : j < k) : (insS vs k a b)[j]? = some (vs.getD j (0, 0)) := by
  unfold insS
  rw [List.getElem?_append_left (by simp; omega), List.getElem?_take_of_lt hj]
  simp [List.getD, List.getElem?_eq_getElem (show j < vs.length by omega)]
theorem insS_at (vs : List (Int × Int)) (k : Nat) (a b : Int) (hk : k ≤ vs.length) : (insS vs k a b)[k]? = some (a, b) := by
  unfold insS
  rw [List.getElem?_append_right (by simp; omega)]
  simp [Nat.min_eq_left hk]
theorem insS_hi (vs : List (Int × Int)) (k j : Nat) (a b : Int) (hk : k ≤ j) (hj : j < vs.length) : (insS vs k a b)[j + 1]? = some (vs.getD j (0, 0)) := by
  unfold insS
  rw [List.getElem?_append_right (by simp; omega), List.length_take, Nat.min_eq_left (by omega), show j + 1 - k = (j - k) + 1 by omega, List.getElem?_cons_succ, List.getElem?_drop, show k + (j - k) = j by omega]
  simp [List.getD, List.getElem?_eq_getElem hj]
theorem take_one {l : List (Int × Int)} {i : Nat} {p : Int × Int} (h : l[i]? = some p) : vcells (l.take (i + 1)) = vcells (l.take i) ++ [.int .i64 p.1, .int .i64 p.2] := by
  have hi : i < l.length := (List.getElem?_eq_some_iff.1 h).1
  rw [List.take_succ_eq_append_getElem hi, vcells_append]
  have : l[i] = p := by rw [List.getElem?_eq_getElem hi] at h; exact Option.some.inj h
  rw [this]; rfl

theorem own_on {w w' : World} {b e size n : Nat} {v : Value} {xs : List Value} (h : w.ownsRow b e size v n xs) (hb : Below w.heap.size w w') : w'.ownsRow b e size v n xs := by
  refine ⟨h.1, ?_⟩
  rcases h.2 with h2 | ⟨g, cap, cur, hv, hg, hh, r⟩
  · exact .inl h2
  · exact .inr ⟨g, cap, cur, hv, hg, (hb.block g (Blk.lt hh)).trans hh, r⟩
def Cv (v x a b : Int) (ov : Value) : Array Value := #[.int .i64 3, .int .i64 v, .int .i64 x, .int .i64 a, .int .i64 b, ov]
/-- The message that is being made: its box, its row of votes, and what was there as it was. -/
structure St (w1 W : World) (v x a b : Int) (ov : Value) (m : Nat) (ys : List Value) : Prop where
  box : Blk W w1.heap.size 43 (Cv v x a b ov)
  own : W.ownsRow (w1.heap.size + 1) 30 2 ov m ys
  bel : Below w1.heap.size w1 W
theorem St.on {w1 W W' : World} {v x a b : Int} {ov : Value} {m : Nat} {ys : List Value} (h : St w1 W v x a b ov m ys) (hb : Below W.heap.size W W') : St w1 W' v x a b ov m ys :=
  ⟨h.box.on hb, own_on h.own hb, on_ h.bel hb⟩
theorem St.other {w1 W W4 : World} {v x a b : Int} {ov : Value} {m : Nat} {ys : List Value} {O : Obj} (h : St w1 W v x a b ov m ys) (hgr : (W.alloc O).grownBy W4 ov.ownBlock) : Blk W4 w1.heap.size 43 (Cv v x a b ov) :=
  (hgr.block _ (by have := h.box.lt; simp; omega) (fun e => by have := (h.own.lt _ e.symm).1; omega)).trans (h.box.alloc O)
theorem St.step {w1 W W4 : World} {v x a b : Int} {ov v1 : Value} {m k : Nat} {ys zs : List Value} {O : Obj} (h : St w1 W v x a b ov m ys) (hgr : (W.alloc O).grownBy W4 ov.ownBlock) (hown : W4.ownsRow (w1.heap.size + 1) 30 2 v1 k zs) :
    St w1 (W4.setCell ⟨w1.heap.size, 5, none⟩ v1) v x a b v1 k zs :=
  ⟨by have := (h.other hgr).set_ 5 v1; exact this, ownsRow_setCell_below hown (by simp) v1, ((h.bel.alloc h.bel.size O).grown hgr (by have := h.bel.size; simp; omega) (fun j hj => by have := (h.own.lt j hj).1; omega)).setCell (Nat.le_refl _) v1⟩

theorem grown_undrew {A B : World} {row : Option Nat} (h : A.drew.grownBy B row) : A.grownBy B row := ⟨h.os, h.tape, h.output, h.size, h.block⟩
theorem reads_new (u : World) (a b : Int) : Reads (u.alloc (.cells #[.int .i64 a, .int .i64 b] 30)) (u.heap.size + 1) 2 (some ⟨u.heap.size, 0, none⟩) 1 [.int .i64 a, .int .i64 b] :=
  ⟨rfl, fun _ => ⟨_, rfl, by simp, World.news_of_block (cs := #[.int .i64 a, .int .i64 b]) (heap_alloc_new u _)⟩⟩

/-- The first place at which a greater view stands. -/
def Gt (vs : List (Int × Int)) (a : Int) (k : Nat) : Prop := k ≤ vs.length ∧ (∀ j, j < k → ¬ a < (vs.getD j (0, 0)).1) ∧ (k < vs.length → a < (vs.getD k (0, 0)).1)

set_option maxHeartbeats 3200000 in
theorem specWith_go (q2 : Bool) (v x a b va vb : Int) (g n k0 : Nat) (vs : List (Int × Int)) (hvn : vs.length = n) (hgt : Gt vs va k0) (hq : msgOkB 3 v x a b vs = true) (hq2 : msgOkB 3 v x a b (insS vs k0 va vb) = q2) (w : World) (hr : Rd w w.heap.size (some ⟨g, 0, none⟩) vs) (hn : n < 1048576) :
    Calls Try.prog 44 #[.agg #[.int .i64 3, .int .i64 v, .int .i64 x, .int .i64 a, .int .i64 b, .slice (some ⟨g, 0, none⟩) n n], .agg #[.int .i64 va, .int .i64 vb]] w (WRes q2 v x a b (insS vs k0 va vb) w) := by
  obtain ⟨i0, hi0, hz0, hz1, hz2⟩ := info_parts infoV2
  have hk0 := ((Blk.new w 43 #[.int .i64 3, .int .i64 v, .int .i64 x, .int .i64 a, .int .i64 b, .slice (some ⟨g, 0, none⟩) n n]).alloc (.cells #[.int .i64 va, .int .i64 vb] 30)).alloc (.cells #[.int .i64 0, .int .i64 0, .int .i64 0, .int .i64 0, .int .i64 0, .slice none 0 0] 43)
  have hv0 := (Blk.new (w.alloc (.cells #[.int .i64 3, .int .i64 v, .int .i64 x, .int .i64 a, .int .i64 b, .slice (some ⟨g, 0, none⟩) n n] 43)) 30 #[.int .i64 va, .int .i64 vb]).alloc (.cells #[.int .i64 0, .int .i64 0, .int .i64 0, .int .i64 0, .int .i64 0, .slice none 0 0] 43)
  have hz00 := Blk.new ((w.alloc (.cells #[.int .i64 3, .int .i64 v, .int .i64 x, .int .i64 a, .int .i64 b, .slice (some ⟨g, 0, none⟩) n n] 43)).alloc (.cells #[.int .i64 va, .int .i64 vb] 30)) 43 #[.int .i64 0, .int .i64 0, .int .i64 0, .int .i64 0, .int .i64 0, .slice none 0 0]
  simp only [World.size_alloc] at hv0 hz00
  have hr0 := fun O O' O'' => ((hr.up O).up O').up O''
  have HR := Lib.hid hr0; clear hr0 hr
  have hcon := fun W h => specMsgOk_is true 3 v x a b (some ⟨g, 0, none⟩) n vs hq W h (by omega)
  have hkn : k0 ≤ n := hvn ▸ hgt.1
  have hlen : (insS vs k0 va vb).length = n + 1 := by rw [insS_len _ _ _ _ (by omega), hvn]
  have hcon2 := fun A c W h => specMsgOk_is q2 3 v x a b A c (insS vs k0 va vb) hq2 W h (by omega)
  have hlo := fun j hj => insS_lo vs k0 j va vb (by omega) hj
  have hata := insS_at vs k0 va vb (by omega)
  have hhi : ∀ j, k0 ≤ j → j < n → (insS vs k0 va vb)[j + 1]? = some (vs.getD j (0, 0)) := fun j hj hl => insS_hi vs k0 j va vb hj (by omega)
  generalize insS vs k0 va vb = us at *
  rw [hvn] at hcon
  have HCON := Lib.hid hcon; clear hcon
  have HCON2 := Lib.hid hcon2; clear hcon2 hq hq2
  have HGT := Lib.hid hgt; clear hgt
  have HLEN := Lib.hid hlen; clear hlen
  have HLO := Lib.hid hlo; clear hlo
  have HATA := Lib.hid hata; clear hata
  have HHI := Lib.hid hhi; clear hhi
  have HV := Lib.hid hvn; clear hvn
  go_enter Try.func44, Try.ntmps44
  go_wp2_with fail
  refine (HCON.out _ (HR.out _ _ _)).mono ?_
  rintro e w1 ⟨rfl, hb1⟩
  have hz1' := hz00.on hb1
  have hk1 := hk0.on hb1
  have hv1 := hv0.on hb1
  have rk1 := hk1.rule
  have hB1 := on_ (up_ (up_ (up_ (Below.refl w.heap.size w) _) _) _) hb1
  have hs1 := hz1'.lt
  have hs1a : w.heap.size < w1.heap.size := hk1.lt
  have hr1 := (HR.out _ _ _).on hb1
  clear hk0 hv0 hz00 hb1
  go_wp2
  go_loopw [7, 8] (fun put i wr => ∃ (j m : Nat) (p : Bool) (ov : Value) (ys : List Value), j ≤ n ∧ i = .int .i64 j ∧ put = .bool p ∧ Hid (p = decide (k0 < j)) ∧ Hid (m = if k0 < j then j + 1 else j) ∧ Hid (ys = vcells (us.take m)) ∧ St w1 wr v x a b ov m ys) (fun _ i _ => n - (intOf i).toNat)
  case atStart => exact ⟨0, 0, false, .slice none 0 0, [], Nat.zero_le _, rfl, rfl, by show _ = _; simp, by show _ = _; simp, by show _ = _; simp [vcells], ⟨Blk.new _ _ _, World.ownsRow_nil _ _ _ _, (Below.refl _ _).alloc (Nat.le_refl _) _⟩⟩
  case round =>
    obtain ⟨j, m, p, ov, ys, hj, rfl, rfl, hp, hm, hys, hst⟩ := hrel
    have hmb := (hk1.below hst.bel hs1a).rule
    have hvb := (hv1.below hst.bel (by have := hv1.lt; omega)).rule
    by_cases hlt : j < n
    · obtain ⟨bl, off, hA, hb, hd0, hd1⟩ := Rd.at_ (hr1.below hst.bel) (k := j) (by rw [HV.out]; omega)
      injection hA with hA
      injection hA with hA1 hA2
      subst hA1 hA2
      simp only [Nat.zero_add] at hd0 hd1
      obtain ⟨⟨ua, ub⟩, hu⟩ : ∃ u, vs.getD j (0, 0) = u := ⟨_, rfl⟩
      rw [hu] at hd0 hd1
      have HU := Lib.hid hu; clear hu
      have M0 := fun y : Lat wr => y.cell (hmb 5)
      have V0 := fun y : Lat wr => y.cell (hvb 0)
      have D0 := fun y : Lat wr => y.cell hd0
      have hi1 : (j : Int) < (n : Int) := by omega
      cases p
      · have hjk : j ≤ k0 := by have := hp.out; simp at this; omega
        by_cases hjk0 : j < k0
        · have hbt : decide (va < ua) = false := by have := HGT.out.2.1 j hjk0; rw [HU.out] at this; simpa using this
          have HP : Hid (false = decide (k0 < j + 1)) := by show _ = _; simp; omega
          have HM : Hid (m + 1 = if k0 < j + 1 then j + 1 + 1 else j + 1) := by show _ = _; have := hm.out; rw [if_neg (by omega)] at this; rw [if_neg (by omega)]; omega
          have HY : Hid (ys ++ [.int .i64 ua, .int .i64 ub] = vcells (us.take (m + 1))) := by
            show _ = _
            have h1 := hm.out
            rw [if_neg (by omega)] at h1
            have h2 := HLO.out j hjk0
            rw [HU.out] at h2
            rw [hys.out, h1, take_one h2]
          go_wp2
          refine wp_region_lat (by kernel_rfl) (by kernel_rfl) ?_
          repeat (go_big_quiet_step (fail))
          refine wpQuiet_nil ?_
          rintro w3 ⟨⟨_, hb3⟩, rfl⟩
          have st3 := hst.on hb3
          have hm3 := (hk1.below hst.bel hs1a).on hb3
          have hv3 := (hv1.below hst.bel (by have := hv1.lt; omega)).on hb3
          have hd03 := (hb3.cell (World.block_lt_of_cell? wr _ hd0)).trans hd0
          have hd13 := (hb3.cell (World.block_lt_of_cell? wr _ hd1)).trans hd1
          have hmn : m ≤ 1048577 := by have := hm.out; split at this <;> omega
          have hmb3 := hm3.rule
          have hvb3 := hv3.rule
          have hsz3 := st3.bel.size
          have hzo3 : w1.heap.size < w3.heap.size := st3.box.lt
          have hzm3 : w.heap.size < w3.heap.size := by omega
          have hzg3 : g < w3.heap.size := by omega
          have rob3 : w3.cell? ⟨w1.heap.size, 5, none⟩ = some ov := st3.box.cell 5
          clear M0 V0 D0 hmb hvb hd0 hd1 hb3 hst
          go_wp2_with fail
          go_region_law ((refine step_append_lies _ (by rfl) (.tmp 47) (.tmp 53) 23 (by rfl) (w1.heap.size + 1) 30 i0 _ 2 16 Try.underlying23 hi0 hz0 hz1 hz2 rfl (by omega) ov m ys (by rfl) ((st3.own.alloc _).drew) ⟨w3.heap.size, 0, none⟩ 1 1 [.int .i64 ua, .int .i64 ub] (by rfl) (by rfl) (World.news_of_block (cs := #[.int .i64 ua, .int .i64 ub]) (t := 30) (fr := (0, 0)) (heap_alloc_new w3 _)) (by simp [Value.oneCell']) (by omega) (by simp only [maxLen]; omega) (by omega) (by have := st3.box.lt; simp; omega) (w3.heap.size + 1) (by simp) ?_; intro g4 c4 w4 hown1 hgr1 hat1 hlt4; have hob4 := st3.other (grown_undrew hgr1); have rob4 : w4.cell? ⟨w1.heap.size, 5, none⟩ = some (ov) := hob4.cell 5; have fob4 := hob4.frozen 5))
          all_goals go_wp2
          all_goals go_roundw
          all_goals first
            | (refine ⟨j + 1, m + 1, false, _, _, by omega, by go_num, rfl, HP, HM, HY, st3.step (grown_undrew hgr1) hown1⟩)
            | (simp [intOf]; omega)
        · have hjk1 : j = k0 := by omega
          have hbt : decide (va < ua) = true := by have := HGT.out.2.2 (by rw [HV.out]; omega); rw [← hjk1, HU.out] at this; simpa using this
          have HP : Hid (true = decide (k0 < j + 1)) := by show _ = _; simp; omega
          have HM : Hid (m + 1 + 1 = if k0 < j + 1 then j + 1 + 1 else j + 1) := by show _ = _; have := hm.out; rw [if_neg (by omega)] at this; rw [if_pos (by omega)]; omega
          have HY : Hid (ys ++ [.int .i64 va, .int .i64 vb] ++ [.int .i64 ua, .int .i64 ub] = vcells (us.take (m + 1 + 1))) := by
            show _ = _
            have h1 := hm.out
            rw [if_neg (by omega)] at h1
            have h2 := HHI.out j (by omega) (by omega)
            have h3 := HATA.out
            rw [HU.out] at h2
            rw [← hjk1] at h3
            rw [hys.out, h1, take_one h2, take_one h3]
          have HJK := Lib.hid hjk1; clear hjk1
          go_wp2
          refine wp_region_lat (by kernel_rfl) (by kernel_rfl) ?_
          repeat (go_big_quiet_step (fail))
          refine wpQuiet_nil ?_
          rintro w3 ⟨⟨_, hb3⟩, rfl⟩
          have st3 := hst.on hb3
          have hm3 := (hk1.below hst.bel hs1a).on hb3
          have hv3 := (hv1.below hst.bel (by have := hv1.lt; omega)).on hb3
          have hd03 := (hb3.cell (World.block_lt_of_cell? wr _ hd0)).trans hd0
          have hd13 := (hb3.cell (World.block_lt_of_cell? wr _ hd1)).trans hd1
          have hmn : m ≤ 1048577 := by have := hm.out; split at this <;> omega
          have hmb3 := hm3.rule
          have hvb3 := hv3.rule
          have hsz3 := st3.bel.size
          have hzo3 : w1.heap.size < w3.heap.size := st3.box.lt
          have hzm3 : w.heap.size < w3.heap.size := by omega
          have hzg3 : g < w3.heap.size := by omega
          have rob3 : w3.cell? ⟨w1.heap.size, 5, none⟩ = some ov := st3.box.cell 5
          clear M0 V0 D0 hmb hvb hd0 hd1 hb3 hst
          go_wp2_with (at_builtin; refine wpList_append_lies _ rfl (.tmp 41) (.tmp 43) 23 rfl (w1.heap.size + 1) 30 i0 _ 2 16 Try.underlying23 hi0 hz0 hz1 hz2 rfl (by omega) ov m ys rfl (st3.own.alloc _) ⟨w3.heap.size, 0, none⟩ 1 1 [.int .i64 va, .int .i64 vb] rfl rfl (World.news_of_block (cs := #[.int .i64 va, .int .i64 vb]) (t := 30) (fr := (0, 0)) (heap_alloc_new w3 _)) (by simp [Value.oneCell']) (by omega) (by simp only [maxLen]; omega) (by omega) (by have := st3.box.lt; simp; omega) (w3.heap.size + 1) (by simp) ?_; intro g5 c5 w5 hown5 hgr5 hat5 hlt5; have hob5 := st3.other hgr5; have rob5 : w5.cell? ⟨w1.heap.size, 5, none⟩ = some ov := hob5.cell 5; have fob5 := hob5.frozen 5)
          have st6 := st3.step hgr5 hown5
          generalize w5.setCell ⟨w1.heap.size, 5, none⟩ (.slice (some ⟨g5, 0, none⟩) (m + 1) c5) = w6 at *
          have hmb6 := (hk1.below st6.bel hs1a).rule
          obtain ⟨bl6, off6, hA6, hb6, hd06, hd16⟩ := Rd.at_ (hr1.below st6.bel) (k := j) (by rw [HV.out]; omega)
          injection hA6 with hA6
          injection hA6 with hA61 hA62
          subst hA61 hA62
          simp only [Nat.zero_add, HU.out] at hd06 hd16
          have hsz6 := st6.bel.size
          have hzo6 : w1.heap.size < w6.heap.size := st6.box.lt
          have hzm6 : w.heap.size < w6.heap.size := by omega
          have hzg6 : g < w6.heap.size := by omega
          have rob6 : w6.cell? ⟨w1.heap.size, 5, none⟩ = some (.slice (some ⟨g5, 0, none⟩) (m + 1) c5) := st6.box.cell 5
          clear hmb3 hvb3 hd03 hd13 rob3 rob5 fob5 hob5 hm3 hv3
          go_wp2_with fail
          go_region_law ((refine step_append_lies _ (by rfl) (.tmp 47) (.tmp 53) 23 (by rfl) (w1.heap.size + 1) 30 i0 _ 2 16 Try.underlying23 hi0 hz0 hz1 hz2 rfl (by omega) (.slice (some ⟨g5, 0, none⟩) (m + 1) c5) (m + 1) (ys ++ [.int .i64 va, .int .i64 vb]) (by rfl) ((st6.own.alloc _).drew) ⟨w6.heap.size, 0, none⟩ 1 1 [.int .i64 ua, .int .i64 ub] (by rfl) (by rfl) (World.news_of_block (cs := #[.int .i64 ua, .int .i64 ub]) (t := 30) (fr := (0, 0)) (heap_alloc_new w6 _)) (by simp [Value.oneCell']) (by omega) (by simp only [maxLen]; omega) (by omega) (by have := st6.box.lt; simp; omega) (w6.heap.size + 1) (by simp) ?_; intro g4 c4 w4 hown1 hgr1 hat1 hlt4; have hob4 := st6.other (grown_undrew hgr1); have rob4 : w4.cell? ⟨w1.heap.size, 5, none⟩ = some ((.slice (some ⟨g5, 0, none⟩) (m + 1) c5)) := hob4.cell 5; have fob4 := hob4.frozen 5))
          all_goals go_wp2
          all_goals go_roundw
          all_goals first
            | (refine ⟨j + 1, m + 1 + 1, true, _, _, by omega, by go_num, rfl, HP, HM, HY, st6.step (grown_undrew hgr1) hown1⟩)
            | (simp [intOf]; omega)
      · have hjk : k0 < j := by have := hp.out; simpa using this.symm
        have HP : Hid (true = decide (k0 < j + 1)) := by show _ = _; simp; omega
        have HM : Hid (m + 1 = if k0 < j + 1 then j + 1 + 1 else j + 1) := by show _ = _; have := hm.out; rw [if_pos (by omega)] at this; rw [if_pos (by omega)]; omega
        have HY : Hid (ys ++ [.int .i64 ua, .int .i64 ub] = vcells (us.take (m + 1))) := by
          show _ = _
          have h1 := hm.out
          rw [if_pos (by omega)] at h1
          have h2 := HHI.out j (by omega) (by omega)
          rw [HU.out] at h2
          rw [hys.out, h1, take_one h2]
        go_wp2
        refine wp_region_lat (by kernel_rfl) (by kernel_rfl) ?_
        repeat (go_big_quiet_step (fail))
        refine wpQuiet_nil ?_
        rintro w3 ⟨⟨_, hb3⟩, rfl⟩
        have st3 := hst.on hb3
        have hm3 := (hk1.below hst.bel hs1a).on hb3
        have hv3 := (hv1.below hst.bel (by have := hv1.lt; omega)).on hb3
        have hd03 := (hb3.cell (World.block_lt_of_cell? wr _ hd0)).trans hd0
        have hd13 := (hb3.cell (World.block_lt_of_cell? wr _ hd1)).trans hd1
        have hmn : m ≤ 1048577 := by have := hm.out; split at this <;> omega
        have hmb3 := hm3.rule
        have hvb3 := hv3.rule
        have hsz3 := st3.bel.size
        have hzo3 : w1.heap.size < w3.heap.size := st3.box.lt
        have hzm3 : w.heap.size < w3.heap.size := by omega
        have hzg3 : g < w3.heap.size := by omega
        have rob3 : w3.cell? ⟨w1.heap.size, 5, none⟩ = some ov := st3.box.cell 5
        clear M0 V0 D0 hmb hvb hd0 hd1 hb3 hst
        go_wp2_with fail
        go_region_law ((refine step_append_lies _ (by rfl) (.tmp 47) (.tmp 53) 23 (by rfl) (w1.heap.size + 1) 30 i0 _ 2 16 Try.underlying23 hi0 hz0 hz1 hz2 rfl (by omega) ov m ys (by rfl) ((st3.own.alloc _).drew) ⟨w3.heap.size, 0, none⟩ 1 1 [.int .i64 ua, .int .i64 ub] (by rfl) (by rfl) (World.news_of_block (cs := #[.int .i64 ua, .int .i64 ub]) (t := 30) (fr := (0, 0)) (heap_alloc_new w3 _)) (by simp [Value.oneCell']) (by omega) (by simp only [maxLen]; omega) (by omega) (by have := st3.box.lt; simp; omega) (w3.heap.size + 1) (by simp) ?_; intro g4 c4 w4 hown1 hgr1 hat1 hlt4; have hob4 := st3.other (grown_undrew hgr1); have rob4 : w4.cell? ⟨w1.heap.size, 5, none⟩ = some (ov) := hob4.cell 5; have fob4 := hob4.frozen 5))
        all_goals go_wp2
        all_goals go_roundw
        all_goals first
          | (refine ⟨j + 1, m + 1, true, _, _, by omega, by go_num, rfl, HP, HM, HY, st3.step (grown_undrew hgr1) hown1⟩)
          | (simp [intOf]; omega)
    · obtain rfl : j = n := by omega
      have hmn : m ≤ 1048577 := by have := hm.out; split at this <;> omega
      have hszr := hst.bel.size
      have hzor : w1.heap.size < wr.heap.size := hst.box.lt
      cases p
      · have rob : wr.cell? ⟨w1.heap.size, 5, none⟩ = some ov := hst.box.cell 5
        have hjk : j = k0 := by have := hp.out; simp at this; omega
        have HYE : Hid (ys ++ [.int .i64 va, .int .i64 vb] = vcells us) := by
          show _ = _
          have h1 := hm.out
          rw [if_neg (by omega)] at h1
          have h3 := HATA.out
          rw [← hjk] at h3
          have h4 : us.take (m + 1) = us := List.take_of_length_le (by have := HLEN.out; omega)
          rw [hys.out, ← h4, h1, take_one h3]
          simp [List.take_take]
        have HLE : Hid (m + 1 = us.length) := by show _ = _; have h1 := hm.out; rw [if_neg (by omega)] at h1; have := HLEN.out; omega
        go_wp2_with (at_builtin; refine wpList_append_lies _ rfl (.tmp 59) (.tmp 61) 23 rfl (w1.heap.size + 1) 30 i0 _ 2 16 Try.underlying23 hi0 hz0 hz1 hz2 rfl (by omega) ov m ys rfl (hst.own.alloc _) ⟨wr.heap.size, 0, none⟩ 1 1 [.int .i64 va, .int .i64 vb] rfl rfl (World.news_of_block (cs := #[.int .i64 va, .int .i64 vb]) (t := 30) (fr := (0, 0)) (heap_alloc_new wr _)) (by simp [Value.oneCell']) (by omega) (by simp only [maxLen]; omega) (by omega) (by have := hst.box.lt; simp; omega) (wr.heap.size + 1) (by simp) ?_; intro g5 c5 w5 hown5 hgr5 hat5 hlt5; have hob5 := hst.other hgr5; have rob5 : ∀ i, w5.cell? ⟨w1.heap.size, i, none⟩ = (#[.int .i64 3, .int .i64 v, .int .i64 x, .int .i64 a, .int .i64 b, ov] : Array Value)[i]? := hob5.rule; have fob5 := fun i => hob5.frozen i; clear rob)
        have st6 := hst.step hgr5 hown5
        generalize w5.setCell ⟨w1.heap.size, 5, none⟩ (.slice (some ⟨g5, 0, none⟩) (m + 1) c5) = w6 at *
        rw [HYE.out, HLE.out] at st6
        rw [HLE.out]
        clear rob5 fob5 hob5 hgr5 hown5 hat5 hlt5
        have ho6 := OV.of_own st6.own
        have hz6 := hz1'.below st6.bel hs1
        have hB6 := hB1.trans (st6.bel.mono (by omega))
        have hk6 := st6.box
        refine (HCON2.out _ _ _ ho6.rd).mono ?_
        rintro e w7 ⟨rfl, hb7⟩
        have hz7 := hz6.on hb7
        have rz7 := hz7.rule
        have fz7 := fun i => hz7.frozen i
        have rk7 : ∀ i, w7.cell? ⟨w1.heap.size, i, none⟩ = (#[.int .i64 3, .int .i64 v, .int .i64 x, .int .i64 a, .int .i64 b, .slice (some ⟨g5, 0, none⟩) us.length c5] : Array Value)[i]? := (hk6.on hb7).rule
        have hB7 := on_ hB6 hb7
        have ho7 := ho6.on hb7
        have hs7 := hz7.lt
        clear hb7 ho6 hz6 hB6 hk6
        cases q2
        · go_wp2
          refine bodyPost_ret (v := .tuple #[.agg #[.int .i64 0, .int .i64 0, .int .i64 0, .int .i64 0, .int .i64 0, .slice none 0 0], .bool false]) (by simp [results, Try.results44, go_sem, rz7]) rfl ?_
          refine ⟨none, 0, rfl, OV.nil_, ?_⟩
          iterate 6 refine Below.setCell ?_ (by simp <;> omega) _
          exact hB7
        · go_wp2
          refine bodyPost_ret (v := .tuple #[.agg #[.int .i64 3, .int .i64 v, .int .i64 x, .int .i64 a, .int .i64 b, .slice (some ⟨g5, 0, none⟩) us.length c5], .bool true]) (by simp [results, Try.results44, go_sem, rz7]) rfl ?_
          refine ⟨some ⟨g5, 0, none⟩, c5, rfl, ?_, ?_⟩
          · refine OV.more (b := w1.heap.size + 1) ?_ (by omega)
            iterate 6 refine OV.set_ ?_ (by simp; omega) _
            exact ho7
          · iterate 6 refine Below.setCell ?_ (by simp <;> omega) _
            exact hB7
      · have hjk : k0 < j := by have := hp.out; simpa using this.symm
        have HYE : Hid (ys = vcells us) := by
          show _ = _
          have h1 := hm.out
          rw [if_pos (by omega)] at h1
          rw [hys.out, List.take_of_length_le (by have := HLEN.out; omega)]
        have HLE : Hid (m = us.length) := by show _ = _; have h1 := hm.out; rw [if_pos (by omega)] at h1; have := HLEN.out; omega
        obtain ⟨g5, c5, rfl, _⟩ := hst.own.form (by have := HLE.out; have := HLEN.out; omega)
        rw [HYE.out, HLE.out] at hst
        have rob : ∀ i, wr.cell? ⟨w1.heap.size, i, none⟩ = (#[.int .i64 3, .int .i64 v, .int .i64 x, .int .i64 a, .int .i64 b, .slice (some ⟨g5, 0, none⟩) us.length c5] : Array Value)[i]? := hst.box.rule
        go_wp2_with fail
        have ho6 := OV.of_own hst.own
        have hz6 := hz1'.below hst.bel hs1
        have hB6 := hB1.trans (hst.bel.mono (by omega))
        have hk6 := hst.box
        refine (HCON2.out _ _ _ ho6.rd).mono ?_
        rintro e w7 ⟨rfl, hb7⟩
        have hz7 := hz6.on hb7
        have rz7 := hz7.rule
        have fz7 := fun i => hz7.frozen i
        have rk7 : ∀ i, w7.cell? ⟨w1.heap.size, i, none⟩ = (#[.int .i64 3, .int .i64 v, .int .i64 x, .int .i64 a, .int .i64 b, .slice (some ⟨g5, 0, none⟩) us.length c5] : Array Value)[i]? := (hk6.on hb7).rule
        have hB7 := on_ hB6 hb7
        have ho7 := ho6.on hb7
        have hs7 := hz7.lt
        clear hb7 ho6 hz6 hB6 hk6
        cases q2
        · go_wp2
          refine bodyPost_ret (v := .tuple #[.agg #[.int .i64 0, .int .i64 0, .int .i64 0, .int .i64 0, .int .i64 0, .slice none 0 0], .bool false]) (by simp [results, Try.results44, go_sem, rz7]) rfl ?_
          refine ⟨none, 0, rfl, OV.nil_, ?_⟩
          iterate 6 refine Below.setCell ?_ (by simp <;> omega) _
          exact hB7
        · go_wp2
          refine bodyPost_ret (v := .tuple #[.agg #[.int .i64 3, .int .i64 v, .int .i64 x, .int .i64 a, .int .i64 b, .slice (some ⟨g5, 0, none⟩) us.length c5], .bool true]) (by simp [results, Try.results44, go_sem, rz7]) rfl ?_
          refine ⟨some ⟨g5, 0, none⟩, c5, rfl, ?_, ?_⟩
          · refine OV.more (b := w1.heap.size + 1) ?_ (by omega)
            iterate 6 refine OV.set_ ?_ (by simp; omega) _
            exact ho7
          · iterate 6 refine Below.setCell ?_ (by simp <;> omega) _
            exact hB7
end Go.Proofs.Ytfbiblomblcheab.V
