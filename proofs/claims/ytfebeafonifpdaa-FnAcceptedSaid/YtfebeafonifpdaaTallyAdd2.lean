/-
  TallyAdd and Joined of the model: what adding comes to. No statement is proved here.
-/
import Derived.Test.YtfebeafonifpdaaTallyAdd
import Derived.Deep.RegionHeld3
import Derived.Deep.RegionLaw
import Derived.Deep.CutRange
set_option linter.unusedVariables false
set_option maxRecDepth 100000
namespace Go.Proofs.Ytfebeafonifpdaa.V
open Go.RowKit Go.Proofs.Ytfebeafonifpdaa.B

theorem lit_ballot (w : World) (a b x : Int) : Reads (w.alloc (.cells #[.int .i64 a, .int .i64 b, .int .i64 x] 54)) (w.heap.size + 1) 3 (some ⟨w.heap.size, 0, none⟩) 1 [.int .i64 a, .int .i64 b, .int .i64 x] :=
  ⟨rfl, fun _ => ⟨_, rfl, by simp, World.news_of_block (cs := #[.int .i64 a, .int .i64 b, .int .i64 x]) (heap_alloc_new w _)⟩⟩
theorem blk_ballot {w : World} {g : Nat} {t : TypeId} {a b x : Int} (h : Blk w g t #[.int .i64 a, .int .i64 b, .int .i64 x]) : Reads w w.heap.size 3 (some ⟨g, 0, none⟩) 1 [.int .i64 a, .int .i64 b, .int .i64 x] :=
  ⟨rfl, fun _ => ⟨_, rfl, h.lt, World.news_of_block (cs := #[.int .i64 a, .int .i64 b, .int .i64 x]) h⟩⟩
theorem own_empty2 (w : World) (t : TypeId) (L : Obj) : ((w.alloc L).alloc (.cells #[] t)).ownsRow (w.heap.size + 1) t 3 (.slice (some ⟨w.heap.size + 1, 0, none⟩) 0 0) 0 [] := by
  have h := own_empty (w.alloc L) t
  simpa using h
theorem blk_new1 (W : World) (L : Obj) (t : TypeId) (cs : Array Value) : Blk ((W.alloc L).alloc (.cells cs t)) (W.heap.size + 1) t cs := by
  have h := Blk.new (W.alloc L) t cs
  simpa using h
theorem sz_a (W : World) (O : Obj) : W.heap.size ≤ (W.alloc O).heap.size := by simp
theorem sz_d (W : World) (O : Obj) : W.heap.size ≤ ((W.alloc O).drew).heap.size := sz_a W O
theorem sz_d2 (W : World) (O L : Obj) : W.heap.size ≤ (((W.alloc O).alloc L).drew).heap.size := Nat.le_trans (sz_a W O) (sz_a (W.alloc O) L)
theorem ne_some {a b : Nat} (h : a ≠ b) : some a ≠ some b := fun e => h (by injection e)
theorem ne_at {v v' : Value} {g h : Nat} (hat : v'.ownBlock = v.ownBlock ∨ v'.ownBlock = some h) (h1 : v.ownBlock ≠ some g) (h2 : g < h) : v'.ownBlock ≠ some g := by
  rcases hat with e | e
  · rw [e]; exact h1
  · rw [e]; exact ne_some (by omega)
theorem ne_low {w : World} {b e n g : Nat} {v : Value} {xs : List Value} (h : w.ownsRow b e 3 v n xs) (hg : g < b) : v.ownBlock ≠ some g := fun e => by have := (h.lt _ e).1; omega
theorem own_ballots {w : World} {BB k : Nat} {t : TypeId} {v : Value} {vs : List B3} {a b x : Int} (h : w.ownsRow BB t 3 v (0 + k + 1) ([] ++ bcells vs ++ [.int .i64 a, .int .i64 b, .int .i64 x])) : w.ownsRow BB t 3 v (k + 1) (bcells (vs ++ [(a, b, x)])) := by
  rw [bcells_append]
  simpa [bcells] using h
theorem own_far {w : World} {b e size n o i : Nat} {v u : Value} {xs : List Value} (h : w.ownsRow b e size v n xs) (hne : v.ownBlock ≠ some o) : (w.setCell ⟨o, i, none⟩ u).ownsRow b e size v n xs :=
  h.kept (only_set3 (World.grownBy.refl w (some o)) i u) (.inr hne)
theorem insT_len (vs : List B3) (k : Nat) (u : B3) (h : k ≤ vs.length) : (insT vs k u).length = k + 1 + (vs.length - k) := by simp [insT]; omega
theorem own_ins {w : World} {BB k m : Nat} {t : TypeId} {v : Value} {vs : List B3} {u : B3} (h : w.ownsRow BB t 3 v (k + 1 + m) (bcells (vs.take k ++ [u]) ++ bcells (vs.drop k))) (hl : (insT vs k u).length = k + 1 + m) : w.ownsRow BB t 3 v (insT vs k u).length (bcells (insT vs k u)) := by
  rw [hl]
  have e : insT vs k u = (vs.take k ++ [u]) ++ vs.drop k := by simp [insT]
  rw [e, bcells_append]
  exact h
/-- Behind the first two appends: the box of the new tally at block o, its row, and what was there. -/
def InsA (W0 : World) (BB o : Nat) (k : Nat) (ys : List Value) (s : Value) (wx : World) : Prop :=
  s = .pointer (some ⟨o, 0, none⟩) ∧ ∃ v, Blk wx o 96 #[v] ∧ wx.ownsRow BB 54 3 v (k + 1) ys ∧ v.ownBlock ≠ some o ∧ Below BB W0 wx

set_option maxHeartbeats 3200000 in
theorem l2add_go (a b x : Int) (A : Option Addr) (c k0 : Nat) (vs : List B3) (hpl : Pl vs (a, b, x) k0) (w : World) (hr : Rd3 w w.heap.size A vs) (hn : vs.length ≤ 2097000) (hnc : vs.length ≤ c) :
    Calls Try.prog 89 #[.agg #[.slice A vs.length c], .agg #[.int .i64 a, .int .i64 b, .int .i64 x]] w (ARes (if hasB vs (a, b, x) k0 then vs else insT vs k0 (a, b, x)) (!hasB vs (a, b, x) k0) w) := by
  obtain ⟨i0, hi0, hz0, hz1, hz2⟩ := info_parts infoB4
  obtain ⟨n, hvn⟩ : ∃ n, vs.length = n := ⟨_, rfl⟩
  obtain ⟨us, hus⟩ : ∃ us, (if hasB vs (a, b, x) k0 then vs else insT vs k0 (a, b, x)) = us := ⟨_, rfl⟩
  obtain ⟨q, hq⟩ : ∃ q, hasB vs (a, b, x) k0 = q := ⟨_, rfl⟩
  rw [hus, hq]
  rw [hq] at hus
  have hq' : q = (decide (k0 < n) && decide (cmp3 (vs.getD k0 z3) (a, b, x) = 0)) := by rw [← hq, hasB, hvn]
  have HUS := Lib.hid hus; clear hus
  have HQQ := Lib.hid hq'; clear hq hq'
  have hkn : k0 ≤ n := hvn ▸ hpl.1
  have HPL := Lib.hid hpl; clear hpl
  rw [hvn] at hn hnc ⊢
  have HV := Lib.hid hvn; clear hvn
  have kt := ((Blk.new w 96 #[.slice A n c]).alloc (.cells #[.int .i64 a, .int .i64 b, .int .i64 x] 54)).alloc (.cells #[.slice none 0 0] 96)
  have kb := (Blk.new (w.alloc (.cells #[.slice A n c] 96)) 54 #[.int .i64 a, .int .i64 b, .int .i64 x]).alloc (.cells #[.slice none 0 0] 96)
  have kr := Blk.new ((w.alloc (.cells #[.slice A n c] 96)).alloc (.cells #[.int .i64 a, .int .i64 b, .int .i64 x] 54)) 96 #[.slice none 0 0]
  simp only [World.size_alloc] at kb kr
  have hB0 : Below w.heap.size w (((w.alloc (.cells #[.slice A n c] 96)).alloc (.cells #[.int .i64 a, .int .i64 b, .int .i64 x] 54)).alloc (.cells #[.slice none 0 0] 96)) := up_ (up_ (up_ (Below.refl _ _) _) _) _
  have hs0 : ((((w.alloc (.cells #[.slice A n c] 96)).alloc (.cells #[.int .i64 a, .int .i64 b, .int .i64 x] 54)).alloc (.cells #[.slice none 0 0] 96))).heap.size = w.heap.size + 1 + 1 + 1 := by simp
  have HK : Hid (∀ wr, Below (w.heap.size + 1 + 1 + 1) (((w.alloc (.cells #[.slice A n c] 96)).alloc (.cells #[.int .i64 a, .int .i64 b, .int .i64 x] 54)).alloc (.cells #[.slice none 0 0] 96)) wr → Blk wr w.heap.size 96 #[.slice A n c] ∧ Blk wr (w.heap.size + 1) 54 #[.int .i64 a, .int .i64 b, .int .i64 x] ∧ Blk wr (w.heap.size + 1 + 1) 96 #[.slice none 0 0] ∧ Rd3 wr w.heap.size A vs ∧ Below w.heap.size w wr ∧ w.heap.size + 1 + 1 + 1 ≤ wr.heap.size) := fun wr h =>
    ⟨kt.below h (by omega), kb.below h (by omega), kr.below h (by omega), hr.below (hB0.trans (h.mono (by omega))), hB0.trans (h.mono (by omega)), by have := h.size; omega⟩
  clear kt kb kr hB0 hs0 hr
  go_enter Try.func89, Try.ntmps89
  go_wp2
  go_loopw [6] (fun i wr => ∃ (k : Nat), k ≤ k0 ∧ i = .int .i64 k ∧ Below (w.heap.size + 1 + 1 + 1) (((w.alloc (.cells #[.slice A n c] 96)).alloc (.cells #[.int .i64 a, .int .i64 b, .int .i64 x] 54)).alloc (.cells #[.slice none 0 0] 96)) wr) (fun i _ => k0 - (intOf i).toNat)
  case atStart => exact ⟨0, Nat.zero_le _, rfl, Below.refl _ _⟩
  case round =>
    obtain ⟨k, hk, rfl, hbel⟩ := hrel
    obtain ⟨kt, kb, kr, hr1, hbw, hsz⟩ := HK.out wr hbel
    have T0 := fun y : Lat wr => y.cell (kt.cell 0)
    have B0 := fun y : Lat wr => y.cell (kb.cell 0)
    have B1 := fun y : Lat wr => y.cell (kb.cell 1)
    have B2 := fun y : Lat wr => y.cell (kb.cell 2)
    by_cases hlt : k < n
    · obtain ⟨bl, off, rfl, hbl, hc0, hc1, hc2⟩ := Rd3.at_ hr1 (k := k) (by rw [HV.out]; omega)
      obtain ⟨⟨ua, ub, uc⟩, hu⟩ : ∃ v, vs.getD k z3 = v := ⟨_, rfl⟩
      rw [hu] at hc0 hc1 hc2
      obtain ⟨z, hz⟩ : ∃ z, cmp3 (ua, ub, uc) (a, b, x) = z := ⟨_, rfl⟩
      have HC := Lib.hid hz
      have C0 := fun y : Lat wr => y.cell hc0
      have C1 := fun y : Lat wr => y.cell hc1
      have C2 := fun y : Lat wr => y.cell hc2
      by_cases hlt0 : k < k0
      · have hzn : z < 0 := by have := HPL.out.2.1 k hlt0; rw [hu, hz] at this; exact this
        have hd : decide (z < 0) = true := by simpa using hzn
        clear hu hz
        go_wp2
        refine wp_region_lat (by kernel_rfl) (by kernel_rfl) ?_
        repeat (go_big_quiet_step ((go_at_call 103; exact lat_call _ (cmp_is z _ _ _ _ _ _ HC.out _))))
        refine wpQuiet_nil ?_
        rintro w3 ⟨⟨_, hb3⟩, rfl⟩
        clear T0 B0 B1 B2 C0 C1 C2
        go_wp2
        go_roundw
        case rel => exact ⟨k + 1, by omega, by go_num, hbel.trans (hb3.mono hsz)⟩
        case measure => simp [intOf]; omega
      · obtain rfl : k = k0 := by omega
        have hzn : ¬ z < 0 := by have := HPL.out.2.2 (by rw [HV.out]; exact hlt); rw [hu, hz] at this; exact this
        have hd : decide (z < 0) = false := by simp; omega
        have HQ2 : Hid (q = decide (z = 0)) := by show _ = _; rw [HQQ.out, hu, hz]; simp [hlt]
        have HU := Lib.hid hu
        clear hu hz
        go_wp2
        refine wp_region_lat (by kernel_rfl) (by kernel_rfl) ?_
        repeat (go_big_quiet_step ((go_at_call 103; exact lat_call _ (cmp_is z _ _ _ _ _ _ HC.out _))))
        refine wpQuiet_nil ?_
        rintro w3 ⟨⟨_, hb3⟩, rfl⟩
        clear T0 B0 B1 B2 C0 C1 C2
        have hbel3 := hbel.trans (hb3.mono hsz)
        obtain ⟨kt3, kb3, kr3, hr3, hbw3, hsz3⟩ := HK.out _ hbel3
        obtain ⟨bl', off', he, _, hc0', hc1', hc2'⟩ := Rd3.at_ hr3 (k := k) (by rw [HV.out]; omega)
        injection he with he
        injection he with he1 he2
        subst he1 he2
        rw [HU.out] at hc0' hc1' hc2'
        have T0 := fun y : Lat w3 => y.cell (kt3.cell 0)
        have B0 := fun y : Lat w3 => y.cell (kb3.cell 0)
        have B1 := fun y : Lat w3 => y.cell (kb3.cell 1)
        have B2 := fun y : Lat w3 => y.cell (kb3.cell 2)
        have C0 := fun y : Lat w3 => y.cell hc0'
        have C1 := fun y : Lat w3 => y.cell hc1'
        have C2 := fun y : Lat w3 => y.cell hc2'
        cases q
        · have hd2 : (z == 0) = false := by have := HQ2.out; simpa using this.symm
          go_wp2
          refine wp_region_lat (by kernel_rfl) (by kernel_rfl) ?_
          repeat (go_big_quiet_step ((go_at_call 103; exact lat_call _ (cmp_is z _ _ _ _ _ _ HC.out _))))
          refine wpQuiet_nil ?_
          rintro w4 ⟨⟨_, hb4⟩, rfl⟩
          have hbel4 := hbel3.trans (hb4.mono hsz3)
          obtain ⟨kt4, kb4, kr4, hr4, hbw4, hsz4⟩ := HK.out _ hbel4
          clear T0 B0 B1 B2 C0 C1 C2 hc0' hc1' hc2' hc0 hc1 hc2 kt3 kb3 kr3 hr3 hb3 hb4 kt kb kr hr1 hbw hbw3 hbel3 hbel
          have hkn' : k ≤ n := by omega
          have HUS2 : Hid (us = insT vs k (a, b, x)) := by show _ = _; rw [← HUS.out]; simp
          have hrd4 := (hr4.take_ k (by rw [HV.out]; omega)).reads
          rw [List.length_take, HV.out, Nat.min_eq_left (by omega)] at hrd4
          have ko5 := Blk.new w4 96 #[.slice none 0 0]
          have hs50 : (w4.alloc (.cells #[.slice none 0 0] 96)).heap.size = w4.heap.size + 1 := by simp
          have kt5 := kt4.alloc (.cells #[.slice none 0 0] 96)
          have kb5 := kb4.alloc (.cells #[.slice none 0 0] 96)
          have kr5 := kr4.alloc (.cells #[.slice none 0 0] 96)
          have hbel5 := hbel4.alloc hsz4 (.cells #[.slice none 0 0] 96)
          have hrd5 := hrd4.alloc (by omega) (.cells #[.slice none 0 0] 96)
          have ho5 : w4.heap.size < (w4.alloc (.cells #[.slice none 0 0] 96)).heap.size := by omega
          have hw5 : (w.heap.size + 1 + 1 + 1) ≤ (w4.alloc (.cells #[.slice none 0 0] 96)).heap.size := by omega
          have HLB := Lib.hid (bcells_one (vs.take k))
          have hkl : k ≤ 2097000 := by omega
          have hkc : k ≤ c := by omega
          have hkc1 : (k : Int) ≤ (c : Int) := by omega
          have hkc0 : (0 : Int) ≤ (k : Int) := by omega
          have hkn1 : (k : Int) ≤ (n : Int) := by omega
          have hkn2 : k ≤ n := by omega
          clear hs50 kt4 kb4 kr4 hrd4 hbel4
          have rt5 := kt5.rule
          have rb5 := kb5.rule
          go_wp2_with fail
          generalize w4.alloc (.cells #[.slice none 0 0] 96) = w5 at *
          have hq5 : w.heap.size ≤ w5.heap.size := by omega
          have hnt : some w5.heap.size ≠ some w.heap.size := ne_some (by omega)
          have hnb : some w5.heap.size ≠ some (w.heap.size + 1) := ne_some (by omega)
          have hnr : some w5.heap.size ≠ some (w.heap.size + 1 + 1) := ne_some (by omega)
          have hno : some w5.heap.size ≠ some w4.heap.size := ne_some (by omega)
          have hnt1 : some (w5.heap.size + 1) ≠ some w.heap.size := ne_some (by omega)
          have hnb1 : some (w5.heap.size + 1) ≠ some (w.heap.size + 1) := ne_some (by omega)
          have hnr1 : some (w5.heap.size + 1) ≠ some (w.heap.size + 1 + 1) := ne_some (by omega)
          have hno1 : some (w5.heap.size + 1) ≠ some w4.heap.size := ne_some (by omega)
          have hnl : some w5.heap.size ≠ some (w5.heap.size + 1) := ne_some (by omega)
          have hnl1 : some (w5.heap.size + 1) ≠ some w5.heap.size := ne_some (by omega)
          have hrow : ∀ j, (Value.slice (some ⟨w5.heap.size, 0, none⟩) 0 0).ownBlock = some j → (w.heap.size + 1 + 1 + 1) ≤ j := fun j hj => by have hj : some w5.heap.size = some j := hj; injection hj with hj; omega
          have hrow1 : ∀ j, (Value.slice (some ⟨w5.heap.size + 1, 0, none⟩) 0 0).ownBlock = some j → (w.heap.size + 1 + 1 + 1) ≤ j := fun j hj => by have hj : some (w5.heap.size + 1) = some j := hj; injection hj with hj; omega
          go_cut [7] from 41 to 50 (fun s7 wx => InsA (((w.alloc (.cells #[.slice (some ⟨bl, off, none⟩) n c] 96)).alloc (.cells #[.int .i64 a, .int .i64 b, .int .i64 x] 54)).alloc (.cells #[.slice none 0 0] 96)) (w.heap.size + 1 + 1 + 1) w4.heap.size k (bcells (vs.take k ++ [(a, b, x)])) s7 wx)
          case first =>
            rename_i J_ K_ hJ_ hK_
            go_region_held3 (fun w' => (∀ i, w'.cell? ⟨w.heap.size, i, none⟩ = (#[.slice (some ⟨bl, off, none⟩) n c] : Array Value)[i]?) ∧ (∀ i, w'.cell? ⟨w.heap.size + 1, i, none⟩ = (#[.int .i64 a, .int .i64 b, .int .i64 x] : Array Value)[i]?))
              (first | with_reducible exact ⟨kt7.rule, kb7.rule⟩ | with_reducible exact ⟨(Blk.up kt6 _).rule, (Blk.up kb6 _).rule⟩ | with_reducible exact ⟨kt6.rule, kb6.rule⟩ | with_reducible exact ⟨(Blk.dr (Blk.up (Blk.up kt5 _) _)).rule, (Blk.dr (Blk.up (Blk.up kb5 _) _)).rule⟩ | with_reducible exact ⟨(Blk.dr (Blk.up kt5 _)).rule, (Blk.dr (Blk.up kb5 _)).rule⟩ | with_reducible exact ⟨(Blk.dr kt5).rule, (Blk.dr kb5).rule⟩ | with_reducible exact ⟨(Blk.far kt7 (by show _ ≠ w4.heap.size; omega) _).rule, (Blk.far kb7 (by show _ ≠ w4.heap.size; omega) _).rule⟩)
              (first
                | (refine step_append_any _ (by rfl) (.tmp 41) (.tmp 45) 48 (by rfl) (w.heap.size + 1 + 1 + 1) 54 i0 _ 3 24 Try.underlying48 hi0 hz0 hz1 hz2 rfl (by omega) (.slice (some ⟨w5.heap.size, 0, none⟩) 0 0) 0 [] (by rfl) (own_more3 (own_drew (own_empty w5 _)) hw5) _ (some ⟨bl, off, none⟩) k c (bcells (vs.take k)) (by rfl) (reads_drew (hrd5.alloc hq5 _)) HLB.out (by simp only [maxLen]; omega) (by omega) (Nat.le_trans hw5 (sz_d _ _)) ?_; intro v6 w6 hown6 hgr6 hat6; have kt6 := keepK (Blk.dr (Blk.up kt5 _)) hgr6 hnt; have kb6 := keepK (Blk.dr (Blk.up kb5 _)) hgr6 hnb; have kr6 := keepK (Blk.dr (Blk.up kr5 _)) hgr6 hnr; have ko6 := keepK (Blk.dr (Blk.up ko5 _)) hgr6 hno; have hs6 := Nat.le_trans (sz_d w5 _) hgr6.size; have hbel6 := Below.grown ((hbel5.alloc hw5 _).drew) hgr6 (Nat.le_trans hw5 (sz_d _ _)) hrow; have hno6 := ne_at hat6 hno (Nat.lt_of_lt_of_le ho5 (sz_d w5 _)))
                | (refine step_append_any _ (by rfl) (.tmp 41) (.tmp 45) 48 (by rfl) (w.heap.size + 1 + 1 + 1) 54 i0 _ 3 24 Try.underlying48 hi0 hz0 hz1 hz2 rfl (by omega) (.slice (some ⟨w5.heap.size, 0, none⟩) 0 0) 0 [] (by rfl) (own_more3 (own_drew ((own_empty w5 _).alloc _)) hw5) _ (some ⟨bl, off, none⟩) k c (bcells (vs.take k)) (by rfl) (reads_drew ((hrd5.alloc hq5 _).alloc (Nat.le_trans hq5 (sz_a _ _)) _)) HLB.out (by simp only [maxLen]; omega) (by omega) (Nat.le_trans hw5 (sz_d2 _ _ _)) ?_; intro v6 w6 hown6 hgr6 hat6; have kt6 := keepK (Blk.dr (Blk.up (Blk.up kt5 _) _)) hgr6 hnt; have kb6 := keepK (Blk.dr (Blk.up (Blk.up kb5 _) _)) hgr6 hnb; have kr6 := keepK (Blk.dr (Blk.up (Blk.up kr5 _) _)) hgr6 hnr; have ko6 := keepK (Blk.dr (Blk.up (Blk.up ko5 _) _)) hgr6 hno; have hs6 := Nat.le_trans (sz_d2 w5 _ _) hgr6.size; have hbel6 := Below.grown (((hbel5.alloc hw5 _).alloc (Nat.le_trans hw5 (sz_a _ _)) _).drew) hgr6 (Nat.le_trans hw5 (sz_d2 _ _ _)) hrow; have hno6 := ne_at hat6 hno (Nat.lt_of_lt_of_le ho5 (sz_d2 w5 _ _)); have kl6 := keepK (Blk.dr (blk_new1 w5 _ 54 #[.int .i64 a, .int .i64 b, .int .i64 x])) hgr6 hnl)
                | (refine step_append_any _ (by rfl) (.tmp 41) (.tmp 45) 48 (by rfl) (w.heap.size + 1 + 1 + 1) 54 i0 _ 3 24 Try.underlying48 hi0 hz0 hz1 hz2 rfl (by omega) (.slice (some ⟨w5.heap.size + 1, 0, none⟩) 0 0) 0 [] (by rfl) (own_more3 (own_drew (own_empty2 w5 _ _)) (Nat.le_succ_of_le hw5)) _ (some ⟨bl, off, none⟩) k c (bcells (vs.take k)) (by rfl) (reads_drew ((hrd5.alloc hq5 _).alloc (Nat.le_trans hq5 (sz_a _ _)) _)) HLB.out (by simp only [maxLen]; omega) (by omega) (Nat.le_trans hw5 (sz_d2 _ _ _)) ?_; intro v6 w6 hown6 hgr6 hat6; have kt6 := keepK (Blk.dr (Blk.up (Blk.up kt5 _) _)) hgr6 hnt1; have kb6 := keepK (Blk.dr (Blk.up (Blk.up kb5 _) _)) hgr6 hnb1; have kr6 := keepK (Blk.dr (Blk.up (Blk.up kr5 _) _)) hgr6 hnr1; have ko6 := keepK (Blk.dr (Blk.up (Blk.up ko5 _) _)) hgr6 hno1; have hs6 := Nat.le_trans (sz_d2 w5 _ _) hgr6.size; have hbel6 := Below.grown (((hbel5.alloc hw5 _).alloc (Nat.le_trans hw5 (sz_a _ _)) _).drew) hgr6 (Nat.le_trans hw5 (sz_d2 _ _ _)) hrow1; have hno6 := ne_at hat6 hno1 (Nat.lt_of_lt_of_le ho5 (sz_d2 w5 _ _)); have kl6 := keepK (Blk.dr (Blk.up (Blk.new w5 54 #[.int .i64 a, .int .i64 b, .int .i64 x]) _)) hgr6 hnl1)
                | (refine step_append_any _ (by rfl) (.tmp 46) (.tmp 48) 48 (by rfl) (w.heap.size + 1 + 1 + 1) 54 i0 _ 3 24 Try.underlying48 hi0 hz0 hz1 hz2 rfl (by omega) v6 (0 + k) ([] ++ bcells (vs.take k)) (by rfl) (hown6.alloc _) _ _ 1 1 [.int .i64 a, .int .i64 b, .int .i64 x] (by rfl) (lit_ballot w6 a b x) (by simp [Value.oneCell']) (by simp only [maxLen]; omega) (by omega) (Nat.le_trans (Nat.le_trans hw5 hs6) (sz_a _ _)) ?_; intro v7 w7 hown7 hgr7 hat7; obtain ⟨A7, d7, rfl⟩ := form3 hown7; have kt7 := keepK (Blk.up kt6 _) hgr7 (ne_low hown6 (by omega)); have kb7 := keepK (Blk.up kb6 _) hgr7 (ne_low hown6 (by omega)); have kr7 := keepK (Blk.up kr6 _) hgr7 (ne_low hown6 (by omega)); have ko7 := keepK (Blk.up ko6 _) hgr7 hno6; have hbel7 := Below.grown (hbel6.alloc (Nat.le_trans hw5 hs6) _) hgr7 (Nat.le_trans (Nat.le_trans hw5 hs6) (sz_a _ _)) (fun j hj => (hown6.lt j hj).1); have hno7 := ne_at hat7 hno6 (Nat.lt_of_lt_of_le ho5 (Nat.le_trans hs6 (sz_a _ _))); have ro7 := ko7.rule; have fo7 := (fun i => ko7.frozen i))
                | (refine step_append_any _ (by rfl) (.tmp 46) (.tmp 48) 48 (by rfl) (w.heap.size + 1 + 1 + 1) 54 i0 _ 3 24 Try.underlying48 hi0 hz0 hz1 hz2 rfl (by omega) v6 (0 + k) ([] ++ bcells (vs.take k)) (by rfl) (hown6) _ _ 1 1 [.int .i64 a, .int .i64 b, .int .i64 x] (by rfl) (blk_ballot kl6) (by simp [Value.oneCell']) (by simp only [maxLen]; omega) (by omega) (Nat.le_trans hw5 hs6) ?_; intro v7 w7 hown7 hgr7 hat7; obtain ⟨A7, d7, rfl⟩ := form3 hown7; have kt7 := keepK kt6 hgr7 (ne_low hown6 (by omega)); have kb7 := keepK kb6 hgr7 (ne_low hown6 (by omega)); have kr7 := keepK kr6 hgr7 (ne_low hown6 (by omega)); have ko7 := keepK ko6 hgr7 hno6; have hbel7 := Below.grown hbel6 hgr7 (Nat.le_trans hw5 hs6) (fun j hj => (hown6.lt j hj).1); have hno7 := ne_at hat7 hno6 (Nat.lt_of_lt_of_le ho5 hs6); have ro7 := ko7.rule; have fo7 := (fun i => ko7.frozen i)))
            all_goals (refine hK_ _ _ (Met.intro (hJ_ _ _ ?_)); (repeat apply Exists.intro); refine ⟨?_, rfl⟩)
            all_goals
              simp only [Nat.zero_add] at hno7
              have hown7 := own_ballots hown7
              simp only [Nat.zero_add] at hown7
              exact ⟨rfl, _, ko7.set_ 0 _, own_far hown7 hno7, hno7, hbel7.setCell (by show _ ≤ w4.heap.size; exact hsz4) _⟩
          case rest =>
            revert wc
            intro w8 hcut
            obtain ⟨rfl, v8, ko8, hown8, hno8, hbel8⟩ := hcut
            obtain ⟨A8, d8, rfl⟩ := form3 hown8
            obtain ⟨kt8, kb8, kr8, hr8, hbw8, hsz8⟩ := HK.out _ hbel8
            have hs48 := ko8.lt
            clear kt5 kb5 kr5 ko5 hrd5 hbel5 ho5 hw5 rt5 rb5 hnt hnb hnr hno hnt1 hnb1 hnr1 hno1 hnl hnl1 hrow hrow1 HLB hq5
            have HLD := Lib.hid (bcells_one (vs.drop k))
            have rt8 := kt8.rule
            have ro8 := ko8.rule
            have fo8 := fun i => ko8.frozen i
            have hrd8 := ((hr8.drop_ k).reads)
            rw [List.length_drop, HV.out] at hrd8
            have hck1 : k < c := by omega
            have hck2 : ¬ c ≤ k := by omega
            have hck3 : (k : Int) < (c : Int) := by omega
            have hrd8 : Reads w8 w.heap.size 3 (if c = k then some ⟨bl, off, none⟩ else some ⟨bl, off + k * 3, none⟩) (n - k) (bcells (vs.drop k)) := by rw [if_neg (by omega)]; exact hrd8
            go_wp2_with fail
            go_region_law (first
              | (refine step_append_any _ (by rfl) (.tmp 52) (.tmp 56) 48 (by rfl) (w.heap.size + 1 + 1 + 1) 54 i0 _ 3 24 Try.underlying48 hi0 hz0 hz1 hz2 rfl (by omega) (.slice A8 (k + 1) d8) (k + 1) (bcells (vs.take k ++ [(a, b, x)])) (by rfl) (own_drew hown8) _ (if c = k then some ⟨bl, off, none⟩ else some ⟨bl, off + k * 3, none⟩) (n - k) (c - k) (bcells (vs.drop k)) (by rfl) (reads_drew hrd8) HLD.out (by simp only [maxLen]; omega) (by omega) (hsz8) ?_; intro v9 w9 hown9 hgr9 hat9; obtain ⟨A9, d9, rfl⟩ := form3 hown9; have ko9 := keepK (Blk.dr ko8) hgr9 hno8; have kr9 := keepK (Blk.dr kr8) hgr9 (ne_low hown8 (by omega)); have hbel9 := Below.grown hbel8.drew hgr9 hsz8 (fun j hj => (hown8.lt j hj).1); have hno9 := ne_at hat9 hno8 hs48; have ro9 := ko9.rule; have fo9 := (fun i => ko9.frozen i)))
            all_goals
              have hln : (insT vs k (a, b, x)).length = k + 1 + (n - k) := by have e := insT_len vs k (a, b, x) (by rw [HV.out]; omega); rw [HV.out] at e; omega
              have hown9 := own_ins hown9 hln
              rw [hln] at hown9
              have hcap9 := cap_of hown9
              have hno9' : (Value.slice A9 (k + 1 + (n - k)) d9).ownBlock ≠ some (w.heap.size + 1 + 1) := ne_low hown9 (by omega)
              have ko10 : Blk (w9.setCell ⟨w4.heap.size, 0, none⟩ (.slice A9 (k + 1 + (n - k)) d9)) w4.heap.size 96 #[.slice A9 (k + 1 + (n - k)) d9] := ko9.set_ 0 _
              have kr10 := kr9.far (p := ⟨w4.heap.size, 0, none⟩) (by show _ ≠ w4.heap.size; omega) (.slice A9 (k + 1 + (n - k)) d9)
              have ro10 := ko10.rule
              have rr10 := kr10.rule
              have fr10 := fun i => kr10.frozen i
              have kr11 : Blk ((w9.setCell ⟨w4.heap.size, 0, none⟩ (.slice A9 (k + 1 + (n - k)) d9)).setCell ⟨w.heap.size + 1 + 1, 0, none⟩ (.slice A9 (k + 1 + (n - k)) d9)) (w.heap.size + 1 + 1) 96 #[.slice A9 (k + 1 + (n - k)) d9] := kr10.set_ 0 _
              have rr11 := kr11.rule
              have HO11 := Lib.hid (own_far (i := 0) (u := .slice A9 (k + 1 + (n - k)) d9) (own_far (i := 0) (u := .slice A9 (k + 1 + (n - k)) d9) hown9 hno9) hno9')
              have HCAP := Lib.hid hcap9
              have HLN := Lib.hid hln
              clear hown9 hcap9 hln hrd8
              go_wp2
              all_goals
                refine bodyPost_ret (v := .tuple #[.agg #[.slice A9 (k + 1 + (n - k)) d9], .bool true]) (by simp [results, Try.results89, go_sem, rr11]) rfl ?_
                have hul : us.length = k + 1 + (n - k) := by rw [HUS2.out, HLN.out]
                have ho := HO11.out
                rw [← hul] at ho
                rw [← HUS2.out] at ho
                have hcap := HCAP.out
                rw [← hul] at hcap ⊢
                refine ⟨A9, d9, rfl, hcap, (OT.of_own ho).rd, ?_⟩
                exact Below.setCell (Below.setCell (HK.out _ hbel9).2.2.2.2.1 (by show w.heap.size ≤ w4.heap.size; omega) _) (by show w.heap.size ≤ w.heap.size + 1 + 1; omega) _
        · have hd2 : (z == 0) = true := by have := HQ2.out; simpa using this.symm
          go_wp2
          refine wp_region_lat (by kernel_rfl) (by kernel_rfl) ?_
          repeat (go_big_quiet_step ((go_at_call 103; exact lat_call _ (cmp_is z _ _ _ _ _ _ HC.out _))))
          refine wpQuiet_nil ?_
          rintro w4 ⟨⟨_, hb4⟩, rfl⟩
          have hbel4 := hbel3.trans (hb4.mono hsz3)
          obtain ⟨kt4, kb4, kr4, hr4, hbw4, hsz4⟩ := HK.out _ hbel4
          clear T0 B0 B1 B2 C0 C1 C2 hc0' hc1' hc2' hc0 hc1 hc2 kt3 kb3 kr3 hr3 hb3 hb4
          have rt4 := kt4.rule
          have rr4 := kr4.rule
          have fr4 := fun i => kr4.frozen i
          have kr5 : Blk (w4.setCell ⟨w.heap.size + 1 + 1, 0, none⟩ (.slice (some ⟨bl, off, none⟩) n c)) (w.heap.size + 1 + 1) 96 #[.slice (some ⟨bl, off, none⟩) n c] := kr4.set_ 0 _
          have rr5 := kr5.rule
          go_wp2
          refine bodyPost_ret (v := .tuple #[.agg #[.slice (some ⟨bl, off, none⟩) n c], .bool false]) (by simp [results, Try.results89, go_sem, rr5]) rfl ?_
          refine ⟨some ⟨bl, off, none⟩, c, by rw [← HUS.out]; simp [HV.out], by rw [← HUS.out]; simpa [HV.out] using hnc, ?_, Below.setCell hbw4 (by show w.heap.size ≤ w.heap.size + 1 + 1; omega) _⟩
          rw [← HUS.out]
          simp only [if_true]
          exact (hr4.keep fun bb o hlt => World.cell?_setCell_other w4 _ ⟨bb, o, none⟩ _ (fun e => by injection e; omega)).more (by simp [World.setCell]; omega)
    · obtain rfl : k = n := by omega
      obtain rfl : k = k0 := by omega
      have HQ2 : Hid (q = false) := by show _ = _; rw [HQQ.out]; simp
      obtain rfl : q = false := HQ2.out
      go_wp2
      refine wp_region_lat (by kernel_rfl) (by kernel_rfl) ?_
      repeat (go_big_quiet_step (fail))
      refine wpQuiet_nil ?_
      rintro w3 ⟨⟨_, hb3⟩, rfl⟩
      have hbel3 := hbel.trans (hb3.mono hsz)
      obtain ⟨kt3, kb3, kr3, hr3, hbw3, hsz3⟩ := HK.out _ hbel3
      clear T0 B0 B1 B2
      have T0 := fun y : Lat w3 => y.cell (kt3.cell 0)
      go_wp2
      refine wp_region_lat (by kernel_rfl) (by kernel_rfl) ?_
      repeat (go_big_quiet_step (fail))
      refine wpQuiet_nil ?_
      rintro w4 ⟨⟨_, hb4⟩, rfl⟩
      have hbel4 := hbel3.trans (hb4.mono hsz3)
      obtain ⟨kt4, kb4, kr4, hr4, hbw4, hsz4⟩ := HK.out _ hbel4
      clear T0 kt3 kb3 kr3 hr3 hb3 hb4 kt kb kr hr1 hbw hbw3 hbel3 hbel
      have hkn' : k ≤ k := Nat.le_refl _
      have HUS2 : Hid (us = insT vs k (a, b, x)) := by show _ = _; rw [← HUS.out]; simp
      rcases A with _ | ad
      · skip
        have hrd4 := (hr4.take_ k (by rw [HV.out]; omega)).reads
        rw [List.length_take, HV.out, Nat.min_eq_left (by omega)] at hrd4
        have ko5 := Blk.new w4 96 #[.slice none 0 0]
        have hs50 : (w4.alloc (.cells #[.slice none 0 0] 96)).heap.size = w4.heap.size + 1 := by simp
        have kt5 := kt4.alloc (.cells #[.slice none 0 0] 96)
        have kb5 := kb4.alloc (.cells #[.slice none 0 0] 96)
        have kr5 := kr4.alloc (.cells #[.slice none 0 0] 96)
        have hbel5 := hbel4.alloc hsz4 (.cells #[.slice none 0 0] 96)
        have hrd5 := hrd4.alloc (by omega) (.cells #[.slice none 0 0] 96)
        have ho5 : w4.heap.size < (w4.alloc (.cells #[.slice none 0 0] 96)).heap.size := by omega
        have hw5 : (w.heap.size + 1 + 1 + 1) ≤ (w4.alloc (.cells #[.slice none 0 0] 96)).heap.size := by omega
        have HLB := Lib.hid (bcells_one (vs.take k))
        have hkl : k ≤ 2097000 := by omega
        have hkc : k ≤ c := by omega
        have hkc1 : (k : Int) ≤ (c : Int) := by omega
        have hkc0 : (0 : Int) ≤ (k : Int) := by omega
        have hkn1 : (k : Int) ≤ (k : Int) := by omega
        have hkn2 : k ≤ k := by omega
        clear hs50 kt4 kb4 kr4 hrd4 hbel4
        have rt5 := kt5.rule
        have rb5 := kb5.rule
        go_wp2_with fail
        generalize w4.alloc (.cells #[.slice none 0 0] 96) = w5 at *
        have hq5 : w.heap.size ≤ w5.heap.size := by omega
        have hnt : some w5.heap.size ≠ some w.heap.size := ne_some (by omega)
        have hnb : some w5.heap.size ≠ some (w.heap.size + 1) := ne_some (by omega)
        have hnr : some w5.heap.size ≠ some (w.heap.size + 1 + 1) := ne_some (by omega)
        have hno : some w5.heap.size ≠ some w4.heap.size := ne_some (by omega)
        have hnt1 : some (w5.heap.size + 1) ≠ some w.heap.size := ne_some (by omega)
        have hnb1 : some (w5.heap.size + 1) ≠ some (w.heap.size + 1) := ne_some (by omega)
        have hnr1 : some (w5.heap.size + 1) ≠ some (w.heap.size + 1 + 1) := ne_some (by omega)
        have hno1 : some (w5.heap.size + 1) ≠ some w4.heap.size := ne_some (by omega)
        have hnl : some w5.heap.size ≠ some (w5.heap.size + 1) := ne_some (by omega)
        have hnl1 : some (w5.heap.size + 1) ≠ some w5.heap.size := ne_some (by omega)
        have hrow : ∀ j, (Value.slice (some ⟨w5.heap.size, 0, none⟩) 0 0).ownBlock = some j → (w.heap.size + 1 + 1 + 1) ≤ j := fun j hj => by have hj : some w5.heap.size = some j := hj; injection hj with hj; omega
        have hrow1 : ∀ j, (Value.slice (some ⟨w5.heap.size + 1, 0, none⟩) 0 0).ownBlock = some j → (w.heap.size + 1 + 1 + 1) ≤ j := fun j hj => by have hj : some (w5.heap.size + 1) = some j := hj; injection hj with hj; omega
        go_cut [7] from 41 to 50 (fun s7 wx => InsA (((w.alloc (.cells #[.slice none k c] 96)).alloc (.cells #[.int .i64 a, .int .i64 b, .int .i64 x] 54)).alloc (.cells #[.slice none 0 0] 96)) (w.heap.size + 1 + 1 + 1) w4.heap.size k (bcells (vs.take k ++ [(a, b, x)])) s7 wx)
        case first =>
          rename_i J_ K_ hJ_ hK_
          go_region_held3 (fun w' => (∀ i, w'.cell? ⟨w.heap.size, i, none⟩ = (#[.slice none k c] : Array Value)[i]?) ∧ (∀ i, w'.cell? ⟨w.heap.size + 1, i, none⟩ = (#[.int .i64 a, .int .i64 b, .int .i64 x] : Array Value)[i]?))
            (first | with_reducible exact ⟨kt7.rule, kb7.rule⟩ | with_reducible exact ⟨(Blk.up kt6 _).rule, (Blk.up kb6 _).rule⟩ | with_reducible exact ⟨kt6.rule, kb6.rule⟩ | with_reducible exact ⟨(Blk.dr (Blk.up (Blk.up kt5 _) _)).rule, (Blk.dr (Blk.up (Blk.up kb5 _) _)).rule⟩ | with_reducible exact ⟨(Blk.dr (Blk.up kt5 _)).rule, (Blk.dr (Blk.up kb5 _)).rule⟩ | with_reducible exact ⟨(Blk.dr kt5).rule, (Blk.dr kb5).rule⟩ | with_reducible exact ⟨(Blk.far kt7 (by show _ ≠ w4.heap.size; omega) _).rule, (Blk.far kb7 (by show _ ≠ w4.heap.size; omega) _).rule⟩)
            (first
              | (refine step_append_any _ (by rfl) (.tmp 41) (.tmp 45) 48 (by rfl) (w.heap.size + 1 + 1 + 1) 54 i0 _ 3 24 Try.underlying48 hi0 hz0 hz1 hz2 rfl (by omega) (.slice (some ⟨w5.heap.size, 0, none⟩) 0 0) 0 [] (by rfl) (own_more3 (own_drew (own_empty w5 _)) hw5) _ none k c (bcells (vs.take k)) (by rfl) (reads_drew (hrd5.alloc hq5 _)) HLB.out (by simp only [maxLen]; omega) (by omega) (Nat.le_trans hw5 (sz_d _ _)) ?_; intro v6 w6 hown6 hgr6 hat6; have kt6 := keepK (Blk.dr (Blk.up kt5 _)) hgr6 hnt; have kb6 := keepK (Blk.dr (Blk.up kb5 _)) hgr6 hnb; have kr6 := keepK (Blk.dr (Blk.up kr5 _)) hgr6 hnr; have ko6 := keepK (Blk.dr (Blk.up ko5 _)) hgr6 hno; have hs6 := Nat.le_trans (sz_d w5 _) hgr6.size; have hbel6 := Below.grown ((hbel5.alloc hw5 _).drew) hgr6 (Nat.le_trans hw5 (sz_d _ _)) hrow; have hno6 := ne_at hat6 hno (Nat.lt_of_lt_of_le ho5 (sz_d w5 _)))
              | (refine step_append_any _ (by rfl) (.tmp 41) (.tmp 45) 48 (by rfl) (w.heap.size + 1 + 1 + 1) 54 i0 _ 3 24 Try.underlying48 hi0 hz0 hz1 hz2 rfl (by omega) (.slice (some ⟨w5.heap.size, 0, none⟩) 0 0) 0 [] (by rfl) (own_more3 (own_drew ((own_empty w5 _).alloc _)) hw5) _ none k c (bcells (vs.take k)) (by rfl) (reads_drew ((hrd5.alloc hq5 _).alloc (Nat.le_trans hq5 (sz_a _ _)) _)) HLB.out (by simp only [maxLen]; omega) (by omega) (Nat.le_trans hw5 (sz_d2 _ _ _)) ?_; intro v6 w6 hown6 hgr6 hat6; have kt6 := keepK (Blk.dr (Blk.up (Blk.up kt5 _) _)) hgr6 hnt; have kb6 := keepK (Blk.dr (Blk.up (Blk.up kb5 _) _)) hgr6 hnb; have kr6 := keepK (Blk.dr (Blk.up (Blk.up kr5 _) _)) hgr6 hnr; have ko6 := keepK (Blk.dr (Blk.up (Blk.up ko5 _) _)) hgr6 hno; have hs6 := Nat.le_trans (sz_d2 w5 _ _) hgr6.size; have hbel6 := Below.grown (((hbel5.alloc hw5 _).alloc (Nat.le_trans hw5 (sz_a _ _)) _).drew) hgr6 (Nat.le_trans hw5 (sz_d2 _ _ _)) hrow; have hno6 := ne_at hat6 hno (Nat.lt_of_lt_of_le ho5 (sz_d2 w5 _ _)); have kl6 := keepK (Blk.dr (blk_new1 w5 _ 54 #[.int .i64 a, .int .i64 b, .int .i64 x])) hgr6 hnl)
              | (refine step_append_any _ (by rfl) (.tmp 41) (.tmp 45) 48 (by rfl) (w.heap.size + 1 + 1 + 1) 54 i0 _ 3 24 Try.underlying48 hi0 hz0 hz1 hz2 rfl (by omega) (.slice (some ⟨w5.heap.size + 1, 0, none⟩) 0 0) 0 [] (by rfl) (own_more3 (own_drew (own_empty2 w5 _ _)) (Nat.le_succ_of_le hw5)) _ none k c (bcells (vs.take k)) (by rfl) (reads_drew ((hrd5.alloc hq5 _).alloc (Nat.le_trans hq5 (sz_a _ _)) _)) HLB.out (by simp only [maxLen]; omega) (by omega) (Nat.le_trans hw5 (sz_d2 _ _ _)) ?_; intro v6 w6 hown6 hgr6 hat6; have kt6 := keepK (Blk.dr (Blk.up (Blk.up kt5 _) _)) hgr6 hnt1; have kb6 := keepK (Blk.dr (Blk.up (Blk.up kb5 _) _)) hgr6 hnb1; have kr6 := keepK (Blk.dr (Blk.up (Blk.up kr5 _) _)) hgr6 hnr1; have ko6 := keepK (Blk.dr (Blk.up (Blk.up ko5 _) _)) hgr6 hno1; have hs6 := Nat.le_trans (sz_d2 w5 _ _) hgr6.size; have hbel6 := Below.grown (((hbel5.alloc hw5 _).alloc (Nat.le_trans hw5 (sz_a _ _)) _).drew) hgr6 (Nat.le_trans hw5 (sz_d2 _ _ _)) hrow1; have hno6 := ne_at hat6 hno1 (Nat.lt_of_lt_of_le ho5 (sz_d2 w5 _ _)); have kl6 := keepK (Blk.dr (Blk.up (Blk.new w5 54 #[.int .i64 a, .int .i64 b, .int .i64 x]) _)) hgr6 hnl1)
              | (refine step_append_any _ (by rfl) (.tmp 46) (.tmp 48) 48 (by rfl) (w.heap.size + 1 + 1 + 1) 54 i0 _ 3 24 Try.underlying48 hi0 hz0 hz1 hz2 rfl (by omega) v6 (0 + k) ([] ++ bcells (vs.take k)) (by rfl) (hown6.alloc _) _ _ 1 1 [.int .i64 a, .int .i64 b, .int .i64 x] (by rfl) (lit_ballot w6 a b x) (by simp [Value.oneCell']) (by simp only [maxLen]; omega) (by omega) (Nat.le_trans (Nat.le_trans hw5 hs6) (sz_a _ _)) ?_; intro v7 w7 hown7 hgr7 hat7; obtain ⟨A7, d7, rfl⟩ := form3 hown7; have kt7 := keepK (Blk.up kt6 _) hgr7 (ne_low hown6 (by omega)); have kb7 := keepK (Blk.up kb6 _) hgr7 (ne_low hown6 (by omega)); have kr7 := keepK (Blk.up kr6 _) hgr7 (ne_low hown6 (by omega)); have ko7 := keepK (Blk.up ko6 _) hgr7 hno6; have hbel7 := Below.grown (hbel6.alloc (Nat.le_trans hw5 hs6) _) hgr7 (Nat.le_trans (Nat.le_trans hw5 hs6) (sz_a _ _)) (fun j hj => (hown6.lt j hj).1); have hno7 := ne_at hat7 hno6 (Nat.lt_of_lt_of_le ho5 (Nat.le_trans hs6 (sz_a _ _))); have ro7 := ko7.rule; have fo7 := (fun i => ko7.frozen i))
              | (refine step_append_any _ (by rfl) (.tmp 46) (.tmp 48) 48 (by rfl) (w.heap.size + 1 + 1 + 1) 54 i0 _ 3 24 Try.underlying48 hi0 hz0 hz1 hz2 rfl (by omega) v6 (0 + k) ([] ++ bcells (vs.take k)) (by rfl) (hown6) _ _ 1 1 [.int .i64 a, .int .i64 b, .int .i64 x] (by rfl) (blk_ballot kl6) (by simp [Value.oneCell']) (by simp only [maxLen]; omega) (by omega) (Nat.le_trans hw5 hs6) ?_; intro v7 w7 hown7 hgr7 hat7; obtain ⟨A7, d7, rfl⟩ := form3 hown7; have kt7 := keepK kt6 hgr7 (ne_low hown6 (by omega)); have kb7 := keepK kb6 hgr7 (ne_low hown6 (by omega)); have kr7 := keepK kr6 hgr7 (ne_low hown6 (by omega)); have ko7 := keepK ko6 hgr7 hno6; have hbel7 := Below.grown hbel6 hgr7 (Nat.le_trans hw5 hs6) (fun j hj => (hown6.lt j hj).1); have hno7 := ne_at hat7 hno6 (Nat.lt_of_lt_of_le ho5 hs6); have ro7 := ko7.rule; have fo7 := (fun i => ko7.frozen i)))
          all_goals (refine hK_ _ _ (Met.intro (hJ_ _ _ ?_)); (repeat apply Exists.intro); refine ⟨?_, rfl⟩)
          all_goals
            simp only [Nat.zero_add] at hno7
            have hown7 := own_ballots hown7
            simp only [Nat.zero_add] at hown7
            exact ⟨rfl, _, ko7.set_ 0 _, own_far hown7 hno7, hno7, hbel7.setCell (by show _ ≤ w4.heap.size; exact hsz4) _⟩
        case rest =>
          revert wc
          intro w8 hcut
          obtain ⟨rfl, v8, ko8, hown8, hno8, hbel8⟩ := hcut
          obtain ⟨A8, d8, rfl⟩ := form3 hown8
          obtain ⟨kt8, kb8, kr8, hr8, hbw8, hsz8⟩ := HK.out _ hbel8
          have hs48 := ko8.lt
          clear kt5 kb5 kr5 ko5 hrd5 hbel5 ho5 hw5 rt5 rb5 hnt hnb hnr hno hnt1 hnb1 hnr1 hno1 hnl hnl1 hrow hrow1 HLB hq5
          have HLD := Lib.hid (bcells_one (vs.drop k))
          have rt8 := kt8.rule
          have ro8 := ko8.rule
          have fo8 := fun i => ko8.frozen i
          have hdn : vs.drop k = [] := List.drop_eq_nil_of_le (by rw [HV.out]; exact Nat.le_refl _)
          have hrd8 : ∀ A' : Option Addr, Reads w8 w.heap.size 3 A' 0 (bcells (vs.drop k)) := fun A' => by rw [hdn]; exact Reads.none_
          go_wp2_with fail
          go_region_law (first
            | (refine step_append_any _ (by rfl) (.tmp 52) (.tmp 56) 48 (by rfl) (w.heap.size + 1 + 1 + 1) 54 i0 _ 3 24 Try.underlying48 hi0 hz0 hz1 hz2 rfl (by omega) (.slice A8 (k + 1) d8) (k + 1) (bcells (vs.take k ++ [(a, b, x)])) (by rfl) (own_drew hown8) _ _ 0 (c - k) (bcells (vs.drop k)) (by rfl) (reads_drew (hrd8 _)) HLD.out (by simp only [maxLen]; omega) (by omega) (hsz8) ?_; intro v9 w9 hown9 hgr9 hat9; obtain ⟨A9, d9, rfl⟩ := form3 hown9; have ko9 := keepK (Blk.dr ko8) hgr9 hno8; have kr9 := keepK (Blk.dr kr8) hgr9 (ne_low hown8 (by omega)); have hbel9 := Below.grown hbel8.drew hgr9 hsz8 (fun j hj => (hown8.lt j hj).1); have hno9 := ne_at hat9 hno8 hs48; have ro9 := ko9.rule; have fo9 := (fun i => ko9.frozen i)))
          all_goals
            have hln : (insT vs k (a, b, x)).length = k + 1 + 0 := by have e := insT_len vs k (a, b, x) (by rw [HV.out]; omega); rw [HV.out] at e; omega
            have hown9 := own_ins hown9 hln
            rw [hln] at hown9
            have hcap9 := cap_of hown9
            have hno9' : (Value.slice A9 (k + 1 + 0) d9).ownBlock ≠ some (w.heap.size + 1 + 1) := ne_low hown9 (by omega)
            have ko10 : Blk (w9.setCell ⟨w4.heap.size, 0, none⟩ (.slice A9 (k + 1 + 0) d9)) w4.heap.size 96 #[.slice A9 (k + 1 + 0) d9] := ko9.set_ 0 _
            have kr10 := kr9.far (p := ⟨w4.heap.size, 0, none⟩) (by show _ ≠ w4.heap.size; omega) (.slice A9 (k + 1 + 0) d9)
            have ro10 := ko10.rule
            have rr10 := kr10.rule
            have fr10 := fun i => kr10.frozen i
            have kr11 : Blk ((w9.setCell ⟨w4.heap.size, 0, none⟩ (.slice A9 (k + 1 + 0) d9)).setCell ⟨w.heap.size + 1 + 1, 0, none⟩ (.slice A9 (k + 1 + 0) d9)) (w.heap.size + 1 + 1) 96 #[.slice A9 (k + 1 + 0) d9] := kr10.set_ 0 _
            have rr11 := kr11.rule
            have HO11 := Lib.hid (own_far (i := 0) (u := .slice A9 (k + 1 + 0) d9) (own_far (i := 0) (u := .slice A9 (k + 1 + 0) d9) hown9 hno9) hno9')
            have HCAP := Lib.hid hcap9
            have HLN := Lib.hid hln
            clear hown9 hcap9 hln hrd8
            go_wp2
            all_goals
              refine bodyPost_ret (v := .tuple #[.agg #[.slice A9 (k + 1 + 0) d9], .bool true]) (by simp [results, Try.results89, go_sem, rr11]) rfl ?_
              have hul : us.length = k + 1 + 0 := by rw [HUS2.out, HLN.out]
              have ho := HO11.out
              rw [← hul] at ho
              rw [← HUS2.out] at ho
              have hcap := HCAP.out
              rw [← hul] at hcap ⊢
              refine ⟨A9, d9, rfl, hcap, (OT.of_own ho).rd, ?_⟩
              exact Below.setCell (Below.setCell (HK.out _ hbel9).2.2.2.2.1 (by show w.heap.size ≤ w4.heap.size; omega) _) (by show w.heap.size ≤ w.heap.size + 1 + 1; omega) _
      · skip
        have hrd4 := (hr4.take_ k (by rw [HV.out]; omega)).reads
        rw [List.length_take, HV.out, Nat.min_eq_left (by omega)] at hrd4
        have ko5 := Blk.new w4 96 #[.slice none 0 0]
        have hs50 : (w4.alloc (.cells #[.slice none 0 0] 96)).heap.size = w4.heap.size + 1 := by simp
        have kt5 := kt4.alloc (.cells #[.slice none 0 0] 96)
        have kb5 := kb4.alloc (.cells #[.slice none 0 0] 96)
        have kr5 := kr4.alloc (.cells #[.slice none 0 0] 96)
        have hbel5 := hbel4.alloc hsz4 (.cells #[.slice none 0 0] 96)
        have hrd5 := hrd4.alloc (by omega) (.cells #[.slice none 0 0] 96)
        have ho5 : w4.heap.size < (w4.alloc (.cells #[.slice none 0 0] 96)).heap.size := by omega
        have hw5 : (w.heap.size + 1 + 1 + 1) ≤ (w4.alloc (.cells #[.slice none 0 0] 96)).heap.size := by omega
        have HLB := Lib.hid (bcells_one (vs.take k))
        have hkl : k ≤ 2097000 := by omega
        have hkc : k ≤ c := by omega
        have hkc1 : (k : Int) ≤ (c : Int) := by omega
        have hkc0 : (0 : Int) ≤ (k : Int) := by omega
        have hkn1 : (k : Int) ≤ (k : Int) := by omega
        have hkn2 : k ≤ k := by omega
        clear hs50 kt4 kb4 kr4 hrd4 hbel4
        have rt5 := kt5.rule
        have rb5 := kb5.rule
        go_wp2_with fail
        generalize w4.alloc (.cells #[.slice none 0 0] 96) = w5 at *
        have hq5 : w.heap.size ≤ w5.heap.size := by omega
        have hnt : some w5.heap.size ≠ some w.heap.size := ne_some (by omega)
        have hnb : some w5.heap.size ≠ some (w.heap.size + 1) := ne_some (by omega)
        have hnr : some w5.heap.size ≠ some (w.heap.size + 1 + 1) := ne_some (by omega)
        have hno : some w5.heap.size ≠ some w4.heap.size := ne_some (by omega)
        have hnt1 : some (w5.heap.size + 1) ≠ some w.heap.size := ne_some (by omega)
        have hnb1 : some (w5.heap.size + 1) ≠ some (w.heap.size + 1) := ne_some (by omega)
        have hnr1 : some (w5.heap.size + 1) ≠ some (w.heap.size + 1 + 1) := ne_some (by omega)
        have hno1 : some (w5.heap.size + 1) ≠ some w4.heap.size := ne_some (by omega)
        have hnl : some w5.heap.size ≠ some (w5.heap.size + 1) := ne_some (by omega)
        have hnl1 : some (w5.heap.size + 1) ≠ some w5.heap.size := ne_some (by omega)
        have hrow : ∀ j, (Value.slice (some ⟨w5.heap.size, 0, none⟩) 0 0).ownBlock = some j → (w.heap.size + 1 + 1 + 1) ≤ j := fun j hj => by have hj : some w5.heap.size = some j := hj; injection hj with hj; omega
        have hrow1 : ∀ j, (Value.slice (some ⟨w5.heap.size + 1, 0, none⟩) 0 0).ownBlock = some j → (w.heap.size + 1 + 1 + 1) ≤ j := fun j hj => by have hj : some (w5.heap.size + 1) = some j := hj; injection hj with hj; omega
        go_cut [7] from 41 to 50 (fun s7 wx => InsA (((w.alloc (.cells #[.slice (some ad) k c] 96)).alloc (.cells #[.int .i64 a, .int .i64 b, .int .i64 x] 54)).alloc (.cells #[.slice none 0 0] 96)) (w.heap.size + 1 + 1 + 1) w4.heap.size k (bcells (vs.take k ++ [(a, b, x)])) s7 wx)
        case first =>
          rename_i J_ K_ hJ_ hK_
          go_region_held3 (fun w' => (∀ i, w'.cell? ⟨w.heap.size, i, none⟩ = (#[.slice (some ad) k c] : Array Value)[i]?) ∧ (∀ i, w'.cell? ⟨w.heap.size + 1, i, none⟩ = (#[.int .i64 a, .int .i64 b, .int .i64 x] : Array Value)[i]?))
            (first | with_reducible exact ⟨kt7.rule, kb7.rule⟩ | with_reducible exact ⟨(Blk.up kt6 _).rule, (Blk.up kb6 _).rule⟩ | with_reducible exact ⟨kt6.rule, kb6.rule⟩ | with_reducible exact ⟨(Blk.dr (Blk.up (Blk.up kt5 _) _)).rule, (Blk.dr (Blk.up (Blk.up kb5 _) _)).rule⟩ | with_reducible exact ⟨(Blk.dr (Blk.up kt5 _)).rule, (Blk.dr (Blk.up kb5 _)).rule⟩ | with_reducible exact ⟨(Blk.dr kt5).rule, (Blk.dr kb5).rule⟩ | with_reducible exact ⟨(Blk.far kt7 (by show _ ≠ w4.heap.size; omega) _).rule, (Blk.far kb7 (by show _ ≠ w4.heap.size; omega) _).rule⟩)
            (first
              | (refine step_append_any _ (by rfl) (.tmp 41) (.tmp 45) 48 (by rfl) (w.heap.size + 1 + 1 + 1) 54 i0 _ 3 24 Try.underlying48 hi0 hz0 hz1 hz2 rfl (by omega) (.slice (some ⟨w5.heap.size, 0, none⟩) 0 0) 0 [] (by rfl) (own_more3 (own_drew (own_empty w5 _)) hw5) _ (some ad) k c (bcells (vs.take k)) (by rfl) (reads_drew (hrd5.alloc hq5 _)) HLB.out (by simp only [maxLen]; omega) (by omega) (Nat.le_trans hw5 (sz_d _ _)) ?_; intro v6 w6 hown6 hgr6 hat6; have kt6 := keepK (Blk.dr (Blk.up kt5 _)) hgr6 hnt; have kb6 := keepK (Blk.dr (Blk.up kb5 _)) hgr6 hnb; have kr6 := keepK (Blk.dr (Blk.up kr5 _)) hgr6 hnr; have ko6 := keepK (Blk.dr (Blk.up ko5 _)) hgr6 hno; have hs6 := Nat.le_trans (sz_d w5 _) hgr6.size; have hbel6 := Below.grown ((hbel5.alloc hw5 _).drew) hgr6 (Nat.le_trans hw5 (sz_d _ _)) hrow; have hno6 := ne_at hat6 hno (Nat.lt_of_lt_of_le ho5 (sz_d w5 _)))
              | (refine step_append_any _ (by rfl) (.tmp 41) (.tmp 45) 48 (by rfl) (w.heap.size + 1 + 1 + 1) 54 i0 _ 3 24 Try.underlying48 hi0 hz0 hz1 hz2 rfl (by omega) (.slice (some ⟨w5.heap.size, 0, none⟩) 0 0) 0 [] (by rfl) (own_more3 (own_drew ((own_empty w5 _).alloc _)) hw5) _ (some ad) k c (bcells (vs.take k)) (by rfl) (reads_drew ((hrd5.alloc hq5 _).alloc (Nat.le_trans hq5 (sz_a _ _)) _)) HLB.out (by simp only [maxLen]; omega) (by omega) (Nat.le_trans hw5 (sz_d2 _ _ _)) ?_; intro v6 w6 hown6 hgr6 hat6; have kt6 := keepK (Blk.dr (Blk.up (Blk.up kt5 _) _)) hgr6 hnt; have kb6 := keepK (Blk.dr (Blk.up (Blk.up kb5 _) _)) hgr6 hnb; have kr6 := keepK (Blk.dr (Blk.up (Blk.up kr5 _) _)) hgr6 hnr; have ko6 := keepK (Blk.dr (Blk.up (Blk.up ko5 _) _)) hgr6 hno; have hs6 := Nat.le_trans (sz_d2 w5 _ _) hgr6.size; have hbel6 := Below.grown (((hbel5.alloc hw5 _).alloc (Nat.le_trans hw5 (sz_a _ _)) _).drew) hgr6 (Nat.le_trans hw5 (sz_d2 _ _ _)) hrow; have hno6 := ne_at hat6 hno (Nat.lt_of_lt_of_le ho5 (sz_d2 w5 _ _)); have kl6 := keepK (Blk.dr (blk_new1 w5 _ 54 #[.int .i64 a, .int .i64 b, .int .i64 x])) hgr6 hnl)
              | (refine step_append_any _ (by rfl) (.tmp 41) (.tmp 45) 48 (by rfl) (w.heap.size + 1 + 1 + 1) 54 i0 _ 3 24 Try.underlying48 hi0 hz0 hz1 hz2 rfl (by omega) (.slice (some ⟨w5.heap.size + 1, 0, none⟩) 0 0) 0 [] (by rfl) (own_more3 (own_drew (own_empty2 w5 _ _)) (Nat.le_succ_of_le hw5)) _ (some ad) k c (bcells (vs.take k)) (by rfl) (reads_drew ((hrd5.alloc hq5 _).alloc (Nat.le_trans hq5 (sz_a _ _)) _)) HLB.out (by simp only [maxLen]; omega) (by omega) (Nat.le_trans hw5 (sz_d2 _ _ _)) ?_; intro v6 w6 hown6 hgr6 hat6; have kt6 := keepK (Blk.dr (Blk.up (Blk.up kt5 _) _)) hgr6 hnt1; have kb6 := keepK (Blk.dr (Blk.up (Blk.up kb5 _) _)) hgr6 hnb1; have kr6 := keepK (Blk.dr (Blk.up (Blk.up kr5 _) _)) hgr6 hnr1; have ko6 := keepK (Blk.dr (Blk.up (Blk.up ko5 _) _)) hgr6 hno1; have hs6 := Nat.le_trans (sz_d2 w5 _ _) hgr6.size; have hbel6 := Below.grown (((hbel5.alloc hw5 _).alloc (Nat.le_trans hw5 (sz_a _ _)) _).drew) hgr6 (Nat.le_trans hw5 (sz_d2 _ _ _)) hrow1; have hno6 := ne_at hat6 hno1 (Nat.lt_of_lt_of_le ho5 (sz_d2 w5 _ _)); have kl6 := keepK (Blk.dr (Blk.up (Blk.new w5 54 #[.int .i64 a, .int .i64 b, .int .i64 x]) _)) hgr6 hnl1)
              | (refine step_append_any _ (by rfl) (.tmp 46) (.tmp 48) 48 (by rfl) (w.heap.size + 1 + 1 + 1) 54 i0 _ 3 24 Try.underlying48 hi0 hz0 hz1 hz2 rfl (by omega) v6 (0 + k) ([] ++ bcells (vs.take k)) (by rfl) (hown6.alloc _) _ _ 1 1 [.int .i64 a, .int .i64 b, .int .i64 x] (by rfl) (lit_ballot w6 a b x) (by simp [Value.oneCell']) (by simp only [maxLen]; omega) (by omega) (Nat.le_trans (Nat.le_trans hw5 hs6) (sz_a _ _)) ?_; intro v7 w7 hown7 hgr7 hat7; obtain ⟨A7, d7, rfl⟩ := form3 hown7; have kt7 := keepK (Blk.up kt6 _) hgr7 (ne_low hown6 (by omega)); have kb7 := keepK (Blk.up kb6 _) hgr7 (ne_low hown6 (by omega)); have kr7 := keepK (Blk.up kr6 _) hgr7 (ne_low hown6 (by omega)); have ko7 := keepK (Blk.up ko6 _) hgr7 hno6; have hbel7 := Below.grown (hbel6.alloc (Nat.le_trans hw5 hs6) _) hgr7 (Nat.le_trans (Nat.le_trans hw5 hs6) (sz_a _ _)) (fun j hj => (hown6.lt j hj).1); have hno7 := ne_at hat7 hno6 (Nat.lt_of_lt_of_le ho5 (Nat.le_trans hs6 (sz_a _ _))); have ro7 := ko7.rule; have fo7 := (fun i => ko7.frozen i))
              | (refine step_append_any _ (by rfl) (.tmp 46) (.tmp 48) 48 (by rfl) (w.heap.size + 1 + 1 + 1) 54 i0 _ 3 24 Try.underlying48 hi0 hz0 hz1 hz2 rfl (by omega) v6 (0 + k) ([] ++ bcells (vs.take k)) (by rfl) (hown6) _ _ 1 1 [.int .i64 a, .int .i64 b, .int .i64 x] (by rfl) (blk_ballot kl6) (by simp [Value.oneCell']) (by simp only [maxLen]; omega) (by omega) (Nat.le_trans hw5 hs6) ?_; intro v7 w7 hown7 hgr7 hat7; obtain ⟨A7, d7, rfl⟩ := form3 hown7; have kt7 := keepK kt6 hgr7 (ne_low hown6 (by omega)); have kb7 := keepK kb6 hgr7 (ne_low hown6 (by omega)); have kr7 := keepK kr6 hgr7 (ne_low hown6 (by omega)); have ko7 := keepK ko6 hgr7 hno6; have hbel7 := Below.grown hbel6 hgr7 (Nat.le_trans hw5 hs6) (fun j hj => (hown6.lt j hj).1); have hno7 := ne_at hat7 hno6 (Nat.lt_of_lt_of_le ho5 hs6); have ro7 := ko7.rule; have fo7 := (fun i => ko7.frozen i)))
          all_goals (refine hK_ _ _ (Met.intro (hJ_ _ _ ?_)); (repeat apply Exists.intro); refine ⟨?_, rfl⟩)
          all_goals
            simp only [Nat.zero_add] at hno7
            have hown7 := own_ballots hown7
            simp only [Nat.zero_add] at hown7
            exact ⟨rfl, _, ko7.set_ 0 _, own_far hown7 hno7, hno7, hbel7.setCell (by show _ ≤ w4.heap.size; exact hsz4) _⟩
        case rest =>
          revert wc
          intro w8 hcut
          obtain ⟨rfl, v8, ko8, hown8, hno8, hbel8⟩ := hcut
          obtain ⟨A8, d8, rfl⟩ := form3 hown8
          obtain ⟨kt8, kb8, kr8, hr8, hbw8, hsz8⟩ := HK.out _ hbel8
          have hs48 := ko8.lt
          clear kt5 kb5 kr5 ko5 hrd5 hbel5 ho5 hw5 rt5 rb5 hnt hnb hnr hno hnt1 hnb1 hnr1 hno1 hnl hnl1 hrow hrow1 HLB hq5
          have HLD := Lib.hid (bcells_one (vs.drop k))
          have rt8 := kt8.rule
          have ro8 := ko8.rule
          have fo8 := fun i => ko8.frozen i
          have hdn : vs.drop k = [] := List.drop_eq_nil_of_le (by rw [HV.out]; exact Nat.le_refl _)
          have hrd8 : ∀ A' : Option Addr, Reads w8 w.heap.size 3 A' 0 (bcells (vs.drop k)) := fun A' => by rw [hdn]; exact Reads.none_
          go_wp2_with fail
          go_region_law (first
            | (refine step_append_any _ (by rfl) (.tmp 52) (.tmp 56) 48 (by rfl) (w.heap.size + 1 + 1 + 1) 54 i0 _ 3 24 Try.underlying48 hi0 hz0 hz1 hz2 rfl (by omega) (.slice A8 (k + 1) d8) (k + 1) (bcells (vs.take k ++ [(a, b, x)])) (by rfl) (own_drew hown8) _ _ 0 (c - k) (bcells (vs.drop k)) (by rfl) (reads_drew (hrd8 _)) HLD.out (by simp only [maxLen]; omega) (by omega) (hsz8) ?_; intro v9 w9 hown9 hgr9 hat9; obtain ⟨A9, d9, rfl⟩ := form3 hown9; have ko9 := keepK (Blk.dr ko8) hgr9 hno8; have kr9 := keepK (Blk.dr kr8) hgr9 (ne_low hown8 (by omega)); have hbel9 := Below.grown hbel8.drew hgr9 hsz8 (fun j hj => (hown8.lt j hj).1); have hno9 := ne_at hat9 hno8 hs48; have ro9 := ko9.rule; have fo9 := (fun i => ko9.frozen i)))
          all_goals
            have hln : (insT vs k (a, b, x)).length = k + 1 + 0 := by have e := insT_len vs k (a, b, x) (by rw [HV.out]; omega); rw [HV.out] at e; omega
            have hown9 := own_ins hown9 hln
            rw [hln] at hown9
            have hcap9 := cap_of hown9
            have hno9' : (Value.slice A9 (k + 1 + 0) d9).ownBlock ≠ some (w.heap.size + 1 + 1) := ne_low hown9 (by omega)
            have ko10 : Blk (w9.setCell ⟨w4.heap.size, 0, none⟩ (.slice A9 (k + 1 + 0) d9)) w4.heap.size 96 #[.slice A9 (k + 1 + 0) d9] := ko9.set_ 0 _
            have kr10 := kr9.far (p := ⟨w4.heap.size, 0, none⟩) (by show _ ≠ w4.heap.size; omega) (.slice A9 (k + 1 + 0) d9)
            have ro10 := ko10.rule
            have rr10 := kr10.rule
            have fr10 := fun i => kr10.frozen i
            have kr11 : Blk ((w9.setCell ⟨w4.heap.size, 0, none⟩ (.slice A9 (k + 1 + 0) d9)).setCell ⟨w.heap.size + 1 + 1, 0, none⟩ (.slice A9 (k + 1 + 0) d9)) (w.heap.size + 1 + 1) 96 #[.slice A9 (k + 1 + 0) d9] := kr10.set_ 0 _
            have rr11 := kr11.rule
            have HO11 := Lib.hid (own_far (i := 0) (u := .slice A9 (k + 1 + 0) d9) (own_far (i := 0) (u := .slice A9 (k + 1 + 0) d9) hown9 hno9) hno9')
            have HCAP := Lib.hid hcap9
            have HLN := Lib.hid hln
            clear hown9 hcap9 hln hrd8
            go_wp2
            all_goals
              refine bodyPost_ret (v := .tuple #[.agg #[.slice A9 (k + 1 + 0) d9], .bool true]) (by simp [results, Try.results89, go_sem, rr11]) rfl ?_
              have hul : us.length = k + 1 + 0 := by rw [HUS2.out, HLN.out]
              have ho := HO11.out
              rw [← hul] at ho
              rw [← HUS2.out] at ho
              have hcap := HCAP.out
              rw [← hul] at hcap ⊢
              refine ⟨A9, d9, rfl, hcap, (OT.of_own ho).rd, ?_⟩
              exact Below.setCell (Below.setCell (HK.out _ hbel9).2.2.2.2.1 (by show w.heap.size ≤ w4.heap.size; omega) _) (by show w.heap.size ≤ w.heap.size + 1 + 1; omega) _
end Go.Proofs.Ytfebeafonifpdaa.V
