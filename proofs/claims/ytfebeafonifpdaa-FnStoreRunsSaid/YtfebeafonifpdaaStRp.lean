/-
  StoreRun of the program: contract. No statement is proved here.
-/
import Derived.Test.YtfebeafonifpdaaStRs
import Derived.Test.YtfebeafonifpdaaStX2
set_option linter.unusedVariables false
set_option maxRecDepth 100000
namespace Go.Proofs.Ytfebeafonifpdaa.V
open Go.RowKit Go.Proofs.Ytfebeafonifpdaa.B
theorem implVal_at (v : Int) (q : Bool) (k y n : Int) (hq : okV v = q) (hk : kV v = k) (hy : yV v = y) (hn : nV v = n) (w : World) : Calls Try.prog 20 #[.int .i64 v] w fun e w' => e = .returned (.tuple #[.agg #[.int .i64 k, .int .i64 y, .int .i64 n], .bool q]) ∧ Below w.heap.size w w' := by
  rw [← hq, ← hk, ← hy, ← hn]; exact implValCmd_any v w
theorem SRel.exec {base p g d : Nat} {w w' : World} {tv : Value} {xs us ts : List Int} {mm : Int} (h : SRel base w p tv (some ⟨g, 0, none⟩) d xs mm ts)
    (hp : Blk w' p 36 #[.slice (some ⟨g, 0, none⟩) 4 d, .int .i64 (mm + 1)]) (ho : OI w' 3 base (some ⟨g, 0, none⟩) us) (hk : ∀ j, j < w.heap.size → j ≠ p → j ≠ g → w'.heap[j]? = w.heap[j]?) :
    SRel base w' p tv (some ⟨g, 0, none⟩) d us (mm + 1) ts := by
  obtain ⟨h1, h2, h3, h4⟩ := h
  refine ⟨hp, ho, ⟨h3.1, ?_⟩, h4⟩
  have hne := own_ne7 h3 h1
  have hng := h4 g rfl
  rcases h3.2 with h5 | ⟨g2, cap, cur, rfl, h6, h7, h8⟩
  · exact .inl h5
  · have hlt : g2 < w.heap.size := (Array.getElem?_eq_some_iff.1 h7).1
    exact .inr ⟨g2, cap, cur, rfl, h6, (hk g2 hlt (fun e => hne (by simp only [Value.ownBlock]; rw [e])) (fun e => hng (by simp only [Value.ownBlock]; rw [e]))).trans h7, h8⟩
set_option maxHeartbeats 3200000 in
theorem implRun_any (A C : Option Addr) (c e0 : Nat) (vs l : List Int) (m : Int) (w : World) (hr : RdI w w.heap.size A vs) (hq : RdI w w.heap.size C l) (hn : vs.length ≤ 1048576) (hln : l.length ≤ 1048576) :
    Calls Try.prog 31 #[.agg #[.slice A vs.length c, .int .i64 m], .slice C l.length e0] w (SR (srX vs m l) (srM vs m l) (srT vs m l) (srQ vs m l) w) := by
  have ka := (Blk.new w 36 #[.slice A vs.length c, .int .i64 m]).alloc (.cells #[.slice none 0 0, .int .i64 0] 36)
  have kr := Blk.new (w.alloc (.cells #[.slice A vs.length c, .int .i64 m] 36)) 36 #[.slice none 0 0, .int .i64 0]
  simp only [World.size_alloc] at kr
  have hB := up_ (up_ (Below.refl w.heap.size w) (.cells #[.slice A vs.length c, .int .i64 m] 36)) (.cells #[.slice none 0 0, .int .i64 0] 36)
  have hr1 := (hr.up (.cells #[.slice A vs.length c, .int .i64 m] 36)).up (.cells #[.slice none 0 0, .int .i64 0] 36)
  have hq1 := (hq.up (.cells #[.slice A vs.length c, .int .i64 m] 36)).up (.cells #[.slice none 0 0, .int .i64 0] 36)
  have HR := Lib.hid hr1
  have HQL := Lib.hid hq1
  clear hr1 hr hq1 hq
  rcases hq : stB vs m with _ | _
  · have hs0 : srQ vs m l = false := by simp [srQ, hq]
    obtain ⟨e1, e2, e3⟩ := sr_no hs0
    rw [e1, e2, e3, hs0]
    have HQ := Lib.hid hq; clear hq e1 e2 e3 hs0
    go_enter Try.func31, Try.ntmps31
    go_wp2_with fail
    with_reducible refine (implStoreOk_is false A c vs m HQ.out _ HR.out hn).mono ?_
    rintro e w1 ⟨rfl, hb⟩
    have ka1 := ka.on hb
    have kr1 := kr.on hb
    have hB1 := on_ hB hb
    have hr1 := Lib.hid (HR.out.on hb)
    have hq1 := Lib.hid (HQL.out.on hb)
    clear hb ka kr hB HR HQL
    have rr1_0 := kr1.rule
    have fr1_0 := fun i => kr1.frozen i
    have kr1_1 : Blk (w1.setCell ⟨w.heap.size + 1, 0, none⟩ (.slice none 0 0)) (w.heap.size + 1) 36 #[.slice none 0 0, .int .i64 0] := kr1.set_ 0 _
    have rr1_1 := kr1_1.rule
    have fr1_1 := fun i => kr1_1.frozen i
    have kr1_2 : Blk ((w1.setCell ⟨w.heap.size + 1, 0, none⟩ (.slice none 0 0)).setCell ⟨w.heap.size + 1, 1, none⟩ (.int .i64 0)) (w.heap.size + 1) 36 #[.slice none 0 0, .int .i64 0] := kr1_1.set_ 1 _
    have rr1_2 := kr1_2.rule
    have fr1_2 := fun i => kr1_2.frozen i
    go_wp2
    refine bodyPost_ret (v := .tuple #[.agg #[.slice none 0 0, .int .i64 0], .slice none 0 0, .bool false]) (by simp [results, Try.results31, go_sem, rr1_2]) rfl ⟨none, 0, none, 0, rfl, OI.nil_, OI.nil_, (fun g e => by cases e), ?_⟩
    iterate 2 refine Below.setCell ?_ (by simp <;> omega) _
    exact hB1
  obtain ⟨hm0, hm1⟩ : 0 ≤ m ∧ m ≤ 1000 := ⟨(stB_yes hq).2.1, (stB_yes hq).2.2.1⟩
  have HIN := Lib.hid (inR_of hq)
  by_cases hlim : 1000 - m < (l.length : Int)
  · have hs0 : srQ vs m l = false := by simp [srQ]; intro _; omega
    obtain ⟨e1, e2, e3⟩ := sr_no hs0
    rw [e1, e2, e3, hs0]
    have HQ := Lib.hid hq; clear hq e1 e2 e3 hs0
    go_enter Try.func31, Try.ntmps31
    go_wp2_with fail
    with_reducible refine (implStoreOk_is true A c vs m HQ.out _ HR.out hn).mono ?_
    rintro e w1 ⟨rfl, hb⟩
    have ka1 := ka.on hb
    have kr1 := kr.on hb
    have hB1 := on_ hB hb
    have hr1 := Lib.hid (HR.out.on hb)
    have hq1 := Lib.hid (HQL.out.on hb)
    clear hb ka kr hB HR HQL
    have ra1 := ka1.rule
    have rr1_0 := kr1.rule
    have fr1_0 := fun i => kr1.frozen i
    have kr1_1 : Blk (w1.setCell ⟨w.heap.size + 1, 0, none⟩ (.slice none 0 0)) (w.heap.size + 1) 36 #[.slice none 0 0, .int .i64 0] := kr1.set_ 0 _
    have rr1_1 := kr1_1.rule
    have fr1_1 := fun i => kr1_1.frozen i
    have kr1_2 : Blk ((w1.setCell ⟨w.heap.size + 1, 0, none⟩ (.slice none 0 0)).setCell ⟨w.heap.size + 1, 1, none⟩ (.int .i64 0)) (w.heap.size + 1) 36 #[.slice none 0 0, .int .i64 0] := kr1_1.set_ 1 _
    have rr1_2 := kr1_2.rule
    have fr1_2 := fun i => kr1_2.frozen i
    go_wp2
    refine bodyPost_ret (v := .tuple #[.agg #[.slice none 0 0, .int .i64 0], .slice none 0 0, .bool false]) (by simp [results, Try.results31, go_sem, rr1_2]) rfl ⟨none, 0, none, 0, rfl, OI.nil_, OI.nil_, (fun g e => by cases e), ?_⟩
    iterate 2 refine Below.setCell ?_ (by simp <;> omega) _
    exact hB1
  have hs0 : srQ vs m l = true := by simp [srQ, hq]; omega
  obtain ⟨e1, e2, e3⟩ := sr_yes hs0
  rw [e1, e2, e3, hs0]
  have hlm : (l.length : Int) ≤ 1000 - m := by omega
  have HQ := Lib.hid hq; clear hq e1 e2 e3 hs0 hlim
  have HFX : Hid (runX vs (l.take l.length) = runX vs l) := by show _ = _; rw [List.take_length]
  have HFM : Hid (runM m (l.take l.length) = runM m l) := by show _ = _; rw [List.take_length]
  have HFT : Hid (runT vs (l.take l.length) = runT vs l) := by show _ = _; rw [List.take_length]
  have HLEN : Hid ((runX vs l).length = 4) := (runX_in HIN.out).1
  obtain ⟨i0, hi0, hz0, hz1, hz2⟩ := info_parts infoI7
  obtain ⟨n, hvn⟩ : ∃ n, l.length = n := ⟨_, rfl⟩
  rw [hvn] at hlm hln HFX HFM HFT ⊢
  have HV := Lib.hid hvn; clear hvn
  go_enter Try.func31, Try.ntmps31
  go_wp2_with fail
  with_reducible refine (implStoreOk_is true A c vs m HQ.out _ HR.out hn).mono ?_
  rintro e w1 ⟨rfl, hb⟩
  have ka1 := ka.on hb
  have kr1 := kr.on hb
  have hB1 := on_ hB hb
  have hr1 := Lib.hid (HR.out.on hb)
  have hq1 := Lib.hid (HQL.out.on hb)
  clear hb ka kr hB HR HQL
  have ra1 := ka1.rule
  have H4 := Lib.hid HIN.out.1
  go_wp2_with fail
  with_reducible refine (copied_any A c vs m w1 hr1.out hn).mono ?_
  rintro e w2 ⟨B0, d0, rfl, hd0, ho, hb2⟩
  have hzw2 := hb2.size
  rw [H4.out] at hd0
  have hs3 : Hid (SRel w1.heap.size (w2.alloc (.cells #[.slice B0 4 d0, .int .i64 m] 36)) w2.heap.size (.slice none 0 0) B0 d0 vs m []) := ⟨Blk.new _ _ _, ho.up _, World.ownsRow_nil _ _ _ _, fun g _ => by simp [Value.ownBlock]⟩
  have hb3 := hb2.alloc hzw2 (.cells #[.slice B0 4 d0, .int .i64 m] 36)
  have hr1z := kr1.lt
  clear ka1 ra1 ho hb2 hr1
  rw [H4.out]
  go_wp2
  generalize w2.alloc (.cells #[.slice B0 4 d0, .int .i64 m] 36) = w3 at *
  go_loopw [8, 30] (fun tv i wr => ∃ (j : Nat) (B : Option Addr) (d : Nat) (xs ts : List Int) (mm : Int), j ≤ n ∧ i = .int .i64 j ∧ Hid (runX vs (l.take j) = xs) ∧ Hid (runM m (l.take j) = mm) ∧ Hid (runT vs (l.take j) = ts) ∧ Hid (SRel w1.heap.size wr w2.heap.size tv B d xs mm ts) ∧ Below w1.heap.size w1 wr) (fun _ i _ => n - (intOf i).toNat)
  case atStart => exact ⟨0, B0, d0, vs, [], m, Nat.zero_le _, rfl, rfl, rfl, rfl, hs3, hb3⟩
  case round =>
    clear hs3 hb3
    obtain ⟨j, B, d, xs, ts, mm, hj, rfl, hX, hM, hT, hs, hbel⟩ := hrel
    have htl : ts.length ≤ 1000 := by rw [← hT.out, runT_len, List.length_take]; have := HV.out; omega
    have hmb : 0 ≤ mm ∧ mm ≤ m + j := by have h := runM_le m (l.take j); rw [hM.out, List.length_take] at h; have := HV.out; omega
    have hin : Hid (inR xs) := by rw [← hX.out]; exact runX_in HIN.out
    obtain ⟨hmb0, hmb1⟩ := hmb
    have hwz := hbel.size
    by_cases hlj : j < n
    · obtain ⟨b2, off2, rfl, hb2, hcl⟩ := RdI.at_ (hq1.out.below hbel) (k := j) (by rw [HV.out]; omega)
      have hsx := runX_step vs l j (by rw [HV.out]; omega)
      have hsm := runM_step m l j (by rw [HV.out]; omega)
      have hst := runT_step vs l j (by rw [HV.out]; omega)
      rw [hX.out] at hsx hst
      rw [hM.out] at hsm
      rw [hT.out] at hst
      obtain ⟨v, hv⟩ : ∃ v, l.getD j 0 = v := ⟨_, rfl⟩
      rw [hv] at hcl hsx hsm hst
      clear hv
      rcases hok : okV v with _ | _
      · have HX' : Hid (runX vs (l.take (j + 1)) = xs) := by show _ = _; rw [hsx]; simp [rStep, hok]
        have HM' : Hid (runM m (l.take (j + 1)) = mm) := by show _ = _; rw [hsm]; simp [rM, hok]
        have HT' : Hid (runT vs (l.take (j + 1)) = ts ++ [-1]) := by show _ = _; rw [hst]; simp [rT, hok]
        have HOK := Lib.hid hok
        clear hsx hsm hst hok hX hM hT
        go_wp2_with fail
        with_reducible refine (implVal_at v false _ _ _ HOK.out rfl rfl rfl _).mono ?_
        rintro e w4 ⟨rfl, hb4⟩
        have hs4 := Lib.hid (((hs.out.on hb4).up (.cells #[.int .i64 (kV v), .int .i64 (yV v), .int .i64 (nV v)] 24)).up (.cells #[.int .i64 (-1)] 3))
        have hb44 := ((hbel.trans (hb4.mono hwz)).alloc (by have := hb4.size; omega) (.cells #[.int .i64 (kV v), .int .i64 (yV v), .int .i64 (nV v)] 24)).alloc (by have := hb4.size; simp; omega) (.cells #[.int .i64 (-1)] 3)
        have hz4 := hb4.size
        have HLIT := Lib.hid (lit7 (w4.alloc (.cells #[.int .i64 (kV v), .int .i64 (yV v), .int .i64 (nV v)] 24)) (.int .i64 (-1)) (w4.heap.size + 1) (by simp))
        clear hs hbel hb4
        go_wp2_with (at_builtin; refine wpList_append_any _ rfl (.tmp 42) (.tmp 44) 34 rfl w1.heap.size 3 i0 _ 1 8 Try.underlying34 hi0 hz0 hz1 hz2 rfl (by omega) u8 ts.length (ic ts) rfl hs4.out.2.2.1 _ _ 1 1 [.int .i64 (-1)] rfl HLIT.out (by simp [Value.oneCell']) (by simp only [maxLen]; omega) (by omega) (by simp; omega) ?_; intro v2 w9 hown2 hgr2 hat2)
        go_roundw
        case rel => exact ⟨j + 1, B, d, xs, ts ++ [-1], mm, by omega, by go_num, HX', HM', HT', hs4.out.app hown2 hgr2 hat2, hb44.grown hgr2 (by simp; omega) (fun g hg => (hs4.out.2.2.1.lt g hg).1)⟩
        case measure => simp [intOf]; omega
      · obtain ⟨q1, q2, q3, q4, q5, q6⟩ := okV_yes hok
        obtain ⟨k, hk⟩ : ∃ k, kV v = k := ⟨_, rfl⟩
        obtain ⟨nn, hnn⟩ : ∃ k, nV v = k := ⟨_, rfl⟩
        obtain ⟨y, hy⟩ : ∃ y : Nat, yV v = y := ⟨(yV v).toNat, by omega⟩
        have HX' : Hid (runX vs (l.take (j + 1)) = doX xs k y nn) := by show _ = _; rw [hsx]; simp [rStep, hok, hk, hy, hnn]
        have HM' : Hid (runM m (l.take (j + 1)) = mm + 1) := by show _ = _; rw [hsm]; simp [rM, hok]
        have HT' : Hid (runT vs (l.take (j + 1)) = ts ++ [xs.getD y 0]) := by show _ = _; rw [hst]; simp [rT, hok, hy]
        have HOK := Lib.hid hok; have HK := Lib.hid hk; have HY := Lib.hid hy; have HN := Lib.hid hnn
        rw [hk] at q1 q2
        rw [hy] at q3 q4
        rw [hnn] at q5 q6
        clear hsx hsm hst hok hX hM hT hk hy hnn
        go_wp2_with fail
        with_reducible refine (implVal_at v true k y nn HOK.out HK.out HY.out HN.out _).mono ?_
        rintro e w4 ⟨rfl, hb4⟩
        have hs5 := Lib.hid ((hs.out.on hb4).up (.cells #[.int .i64 k, .int .i64 (y : Int), .int .i64 nn] 24))
        have hb5 := (hbel.trans (hb4.mono hwz)).alloc (by have := hb4.size; omega) (.cells #[.int .i64 k, .int .i64 (y : Int), .int .i64 nn] 24)
        have hz5 : w1.heap.size ≤ w4.heap.size + 1 := by have := hb4.size; omega
        have hz5b : (w4.alloc (.cells #[.int .i64 k, .int .i64 (y : Int), .int .i64 nn] 24)).heap.size = w4.heap.size + 1 := World.size_alloc _ _
        have HZ5 := Lib.hid hz5b
        clear hs hbel hb4 hz5b
        go_wp2_with fail
        generalize w4.alloc (.cells #[.int .i64 k, .int .i64 (y : Int), .int .i64 nn] 24) = w5 at *
        have hxy := hin.out.2 y (by omega)
        have HXY := Lib.hid hxy; clear hxy
        obtain ⟨g, cs, rfl, hgb, hkg, _⟩ := hs5.out.2.1.row7 (by rw [hin.out.1]; omega)
        have hk5 := Lib.hid hs5.out.1
        have ho5 := Lib.hid hs5.out.2.1
        have hl5 := Lib.hid hin.out.1
        have hne5 : Hid (w2.heap.size ≠ g) := fun e => oi_ne7 (t := 0) hs5.out.2.1 hs5.out.1 g rfl e.symm
        clear hkg
        with_reducible refine (execs_any w1.heap.size w2.heap.size g d mm k nn y xs w5 hl5.out (by omega) q1 q2 q5 q6 hmb0 (by omega) HXY.out hk5.out ho5.out hne5.out hzw2).mono ?_
        rintro e w6 ⟨rfl, hp6, ho6, hb6, hz6, hkk⟩
        have hs6 := Lib.hid (hs5.out.exec hp6 ho6 hkk)
        have hs8 := Lib.hid (hs6.out.up (.cells #[.int .i64 (xs.getD y 0)] 3))
        have hwz6 : w1.heap.size ≤ w6.heap.size := by have := HZ5.out; omega
        have HB8 := Lib.hid ((hb5.trans hb6).alloc hwz6 (.cells #[.int .i64 (xs.getD y 0)] 3))
        have HLIT := Lib.hid (lit7 w6 (.int .i64 (xs.getD y 0)) w6.heap.size rfl)
        clear hs5 hb5 hb6 hp6 ho6 hkk hk5 ho5 hs6 hl5
        go_wp2_with (at_builtin; refine wpList_append_any _ rfl (.tmp 42) (.tmp 44) 34 rfl w1.heap.size 3 i0 _ 1 8 Try.underlying34 hi0 hz0 hz1 hz2 rfl (by omega) u8 ts.length (ic ts) rfl hs8.out.2.2.1 _ _ 1 1 [.int .i64 (xs.getD y 0)] rfl HLIT.out (by simp [Value.oneCell']) (by simp only [maxLen]; omega) (by omega) (by simp; omega) ?_; intro v2 w9 hown2 hgr2 hat2)
        go_roundw
        case rel => exact ⟨j + 1, _, d, doX xs k y nn, ts ++ [xs.getD y 0], mm + 1, by omega, by go_num, HX', HM', HT', hs8.out.app hown2 hgr2 hat2, HB8.out.grown hgr2 (by simp; omega) (fun g hg => (hs8.out.2.2.1.lt g hg).1)⟩
        case measure => simp [intOf]; omega
    · obtain rfl : j = n := by omega
      have kr9 := kr1.below hbel (by omega)
      have ko9 := hs.out.1
      have hoz := ko9.lt
      have hX2 := hX.out.symm.trans HFX.out
      have hM2 := hM.out.symm.trans HFM.out
      have hT2 := hT.out.symm.trans HFT.out
      obtain ⟨Bt, ct, rfl, hot⟩ := ic_of_own hs.out.2.2.1
      have h4 : xs.length = 4 := hin.out.1
      have H4 := Lib.hid h4; have HX2 := Lib.hid hX2; have HM2 := Lib.hid hM2; have HT2 := Lib.hid hT2
      clear h4 hX2 hM2 hT2
      have hB9 := hB1.trans (hbel.mono (by omega))
      have rr9_0 := kr9.rule
      have fr9_0 := fun i => kr9.frozen i
      have ro9_0 := ko9.rule
      have fo9_0 := fun i => ko9.frozen i
      have kr9_1 : Blk (wr.setCell ⟨w.heap.size + 1, 0, none⟩ (.slice B 4 d)) (w.heap.size + 1) 36 #[.slice B 4 d, .int .i64 0] := kr9.set_ 0 _
      have ko9_1 := ko9.far (p := ⟨w.heap.size + 1, 0, none⟩) (by show w2.heap.size ≠ w.heap.size + 1; omega) (.slice B 4 d)
      have rr9_1 := kr9_1.rule
      have fr9_1 := fun i => kr9_1.frozen i
      have ro9_1 := ko9_1.rule
      have fo9_1 := fun i => ko9_1.frozen i
      have kr9_2 : Blk ((wr.setCell ⟨w.heap.size + 1, 0, none⟩ (.slice B 4 d)).setCell ⟨w.heap.size + 1, 1, none⟩ (.int .i64 mm)) (w.heap.size + 1) 36 #[.slice B 4 d, .int .i64 mm] := kr9_1.set_ 1 _
      have ko9_2 := ko9_1.far (p := ⟨w.heap.size + 1, 1, none⟩) (by show w2.heap.size ≠ w.heap.size + 1; omega) (.int .i64 mm)
      have rr9_2 := kr9_2.rule
      have fr9_2 := fun i => kr9_2.frozen i
      have ro9_2 := ko9_2.rule
      have fo9_2 := fun i => ko9_2.frozen i
      go_wp2
      refine bodyPost_ret (v := .tuple #[.agg #[.slice B 4 d, .int .i64 mm], .slice Bt ts.length ct, .bool true]) (by simp [results, Try.results31, go_sem, rr9_2]) rfl ?_
      rw [← HX2.out, ← HM2.out, ← HT2.out]
      refine ⟨B, d, Bt, ct, by rw [H4.out], ?_, ?_, ?_, ?_⟩
      · exact OI.more (OI.set_ (OI.set_ hs.out.2.1 (by show w.heap.size + 1 < w1.heap.size; omega) _) (by show w.heap.size + 1 < w1.heap.size; omega) _) (by omega)
      · exact OI.more (OI.set_ (OI.set_ hot (by show w.heap.size + 1 < w1.heap.size; omega) _) (by show w.heap.size + 1 < w1.heap.size; omega) _) (by omega)
      · intro g e1 e2
        exact hs.out.2.2.2 g e1 (own_block rfl e2)
      · iterate 2 refine Below.setCell ?_ (by simp <;> omega) _
        exact hB9
end Go.Proofs.Ytfebeafonifpdaa.V
