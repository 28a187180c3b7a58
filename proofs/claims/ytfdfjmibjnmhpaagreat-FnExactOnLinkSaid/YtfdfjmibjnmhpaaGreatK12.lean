/-
  ClusterOk of the model: contracts. No statement is proved here.
-/
import Derived.Test.YtfdfjmibjnmhpaaGreatK10
import Derived.Test.YtfdfjmibjnmhpaaGreatK08
import Derived.Deep.RegionWith
set_option linter.unusedVariables false
set_option maxRecDepth 100000
namespace Go.Proofs.YtfdfjmibjnmhpaaGreat.V
open Go.RowKit Go.Proofs.YtfdfjmibjnmhpaaGreat.B

set_option maxHeartbeats 1600000 in
theorem lies_is (m : Nat) (q : Cq) (hm : liesN q.bad = m) (w : World) (hr : RdK KB w w.heap.size q.Ab q.bad) (hn : q.bad.length ≤ 1048576) :
    Calls Tryz.prog 50 #[q.agg] w fun e w' => e = .returned (.int .i64 m) ∧ Below w.heap.size w w' := by
  obtain ⟨n, bad, rs, nt, Ab, Ar, An, cb, cr, cn⟩ := q
  simp only [Cq.agg, Cq.cells] at *
  obtain ⟨lb, elb⟩ : ∃ m, bad.length = m := ⟨_, rfl⟩
  obtain ⟨lr, elr⟩ : ∃ m, rs.length = m := ⟨_, rfl⟩
  obtain ⟨ln, eln⟩ : ∃ m, nt.length = m := ⟨_, rfl⟩
  simp only [elb, elr, eln] at hn ⊢
  have HL := Lib.hid elb; have HM := Lib.hid hm
  clear elb elr eln hm
  have hB := up_ (Below.refl w.heap.size w) (.cells #[.int .i64 n, .slice Ab lb cb, .slice Ar lr cr, .slice An ln cn] 33)
  have ka := Blk.new w 33 #[.int .i64 n, .slice Ab lb cb, .slice Ar lr cr, .slice An ln cn]
  have HKA := Lib.hid ka; have HB := Lib.hid hB; clear ka hB
  go_enter Tryz.func50, Tryz.ntmps50
  go_wp2
  go_loopw [3, 4] (fun f i wr => ∃ (k : Nat) (m : Nat), k ≤ lb ∧ i = .int .i64 k ∧ f = .int .i64 m ∧ m ≤ k ∧ Hid (m = liesN (bad.take k)) ∧ Blk wr w.heap.size 33 #[.int .i64 n, .slice Ab lb cb, .slice Ar lr cr, .slice An ln cn] ∧ Below w.heap.size w wr) (fun _ i _ => lb - (intOf i).toNat)
  case atStart => exact ⟨0, 0, Nat.zero_le _, rfl, rfl, Nat.le_refl _, by show _ = _; simp [liesN], HKA.out, HB.out⟩
  case round =>
    obtain ⟨k, y, hk, rfl, rfl, hy, hyy, ka, hbel⟩ := hrel
    clear HKA HB
    have ra := ka.rule
    by_cases hlt : k < lb
    · obtain ⟨b_, off, rfl, hb, hcs, hrv⟩ := RdK.at_ (hr.below hbel) (k := k) (by rw [HL.out]; omega)
      clear hr hrv
      change ∀ j, j < 1 → wr.cell? ⟨b_, off + k * 1 + j, none⟩ = (KB.cells (bad.getD k false))[j]? at hcs
      have hst := lies_step bad k (by rw [HL.out]; exact hlt)
      obtain ⟨u, hu⟩ : ∃ u, bad.getD k false = u := ⟨_, rfl⟩
      rw [hu] at hcs hst
      have hc0 : wr.cell? ⟨b_, off + k, none⟩ = some (.bool u) := by have := hcs 0 (by decide); simpa [KB] using this
      have HST := Lib.hid hst
      clear hcs hu hst
      rcases u with _ | _
      · go_wp2
        go_roundw
        case rel => exact ⟨k + 1, y, by omega, by go_num, rfl, by omega, by show _ = _; rw [HST.out, hyy.out]; rfl, ka, hbel⟩
        case measure => simp [intOf]; omega
      · go_wp2
        go_roundw
        case rel => exact ⟨k + 1, y + 1, by omega, by go_num, by go_num, by omega, by show _ = _; rw [HST.out, hyy.out]; rfl, ka, hbel⟩
        case measure => simp [intOf]; omega
    · have hkl : k = lb := by omega
      subst hkl
      have HY : Hid (m = y) := by show _ = _; rw [← HM.out, hyy.out, List.take_of_length_le (by rw [HL.out]; omega)]
      go_wp2
      go_ret
      exact ⟨ret_int (by rw [HY.out]), hbel⟩

set_option maxHeartbeats 800000 in
theorem specClusterOk_no (q : Cq) (hs : sizeB q.n = false) (w : World) :
    Calls Tryz.prog 28 #[q.agg] w fun e w' => e = .returned (.bool false) ∧ Below w.heap.size w w' := by
  obtain ⟨n, bad, rs, nt, Ab, Ar, An, cb, cr, cn⟩ := q
  simp only [Cq.agg, Cq.cells] at *
  obtain ⟨lb, elb⟩ : ∃ m, bad.length = m := ⟨_, rfl⟩
  obtain ⟨lr, elr⟩ : ∃ m, rs.length = m := ⟨_, rfl⟩
  obtain ⟨ln, eln⟩ : ∃ m, nt.length = m := ⟨_, rfl⟩
  simp only [elb, elr, eln]
  have HS := Lib.hid hs; clear elb elr eln hs
  have ka := Blk.new w 33 #[.int .i64 n, .slice Ab lb cb, .slice Ar lr cr, .slice An ln cn]
  have C0 := fun x => lat_blk ka x
  have HB := Lib.hid (fun (x : Lat (w.alloc (.cells #[.int .i64 n, .slice Ab lb cb, .slice Ar lr cr, .slice An ln cn] 33))) => on_ (up_ (Below.refl w.heap.size w) _) x.below)
  go_enter Tryz.func28, Tryz.ntmps28
  go_wp2
  refine wp_region_lat (by kernel_rfl) (by kernel_rfl) ?_
  repeat (go_big_quiet_step ((first | (go_at_call 49; exact lat_same _ (specSize_is n false HS.out _)))))
  refine wpQuiet_nil ?_
  rintro w3 ⟨⟨_, hb3⟩, rfl⟩
  have hB3 := HB.out ⟨_, hb3⟩
  clear C0 ka
  go_wp2
  go_ret
  exact ⟨rfl, hB3⟩

theorem same_map (l : List Mp) (t : Nat) : (l.map Mp.dat).getD t zM.dat = (l.getD t zM).dat := by
  simp only [List.getD_eq_getElem?_getD, List.getElem?_map]
  cases l[t]? <;> rfl

set_option maxHeartbeats 12800000 in
theorem specClusterOk_4 (z : Bool) (q : Cq) (hn : q.n = 4) (hz : (flagsB 4 q.bad && (lensC q.dat && (repsB 4 (q.rs.map Rq.dat) && netB 4 (q.nt.map Lp.dat)))) = z) (w : World) (hr : RdC4 w w.heap.size q) (hf : FewC q) :
    Calls Tryz.prog 28 #[q.agg] w fun e w' => e = .returned (.bool z) ∧ Below w.heap.size w w' := by
  obtain ⟨m, hm⟩ : ∃ m, liesN q.bad = m := ⟨_, rfl⟩
  have HLI := Lib.hid (fun (W : World) (h : Below w.heap.size w W) => lies_is m q hm W ((hr.b.below h).more h.size) hf.b)
  obtain ⟨n, bad, rs, nt, Ab, Ar, An, cb, cr, cn⟩ := q
  obtain ⟨rb, rr, rn⟩ := hr
  obtain ⟨fb, fr, fn⟩ := hf
  simp only [Cq.agg, Cq.cells] at *
  subst hn
  unfold flagsB lensC Cq.dat at hz
  simp only [List.length_map, hm] at hz
  obtain ⟨lb, elb⟩ : ∃ m, bad.length = m := ⟨_, rfl⟩
  obtain ⟨lr, elr⟩ : ∃ m, rs.length = m := ⟨_, rfl⟩
  obtain ⟨ln, eln⟩ : ∃ m, nt.length = m := ⟨_, rfl⟩
  simp only [elb, elr, eln] at hz HLI fb fr fn ⊢
  have HZ := Lib.hid hz; have ELR := Lib.hid elr; have ELN := Lib.hid eln; have RR := Lib.hid rr; have RNN := Lib.hid rn; have FR := Lib.hid fr; have FN := Lib.hid fn
  have hml : m ≤ lb := by rw [← hm, ← elb]; exact lies_le bad
  clear hz elb elr eln hm rb rr rn fr fn
  have HS : Hid (sizeB 4 = true) := rfl
  have ka := Blk.new w 33 #[.int .i64 4, .slice Ab lb cb, .slice Ar lr cr, .slice An ln cn]
  have C0 := fun x => lat_blk ka x
  have HB := Lib.hid (fun (x : Lat (w.alloc (.cells #[.int .i64 4, .slice Ab lb cb, .slice Ar lr cr, .slice An ln cn] 33))) => on_ (up_ (Below.refl w.heap.size w) _) x.below)
  by_cases d1 : (lb : Int) = 4
  · have e1 : ((lb : Int) != 4) = false := by simp [d1]
    have D1 := Lib.hid d1; clear d1
    by_cases d2 : (lr : Int) = 4
    · have e2 : ((lr : Int) != 4) = false := by simp [d2]
      have D2 := Lib.hid d2; clear d2
      by_cases d3 : (ln : Int) = 16
      · have e3 : ((ln : Int) != 16) = false := by simp [d3]
        have D3 := Lib.hid d3; clear d3
        by_cases d4 : (m : Int) ≤ 1
        · have e4 : decide ((1 : Int) < (m : Int)) = false := by simp; omega
          have e4n : decide (1 < m) = false := by simp; omega
          have D4 := Lib.hid d4; clear d4
          have bm : m ≤ 100 := by have := D4.out; omega
          go_enter Tryz.func28, Tryz.ntmps28
          go_wp2
          refine wp_region_lat (by kernel_rfl) (by kernel_rfl) ?_
          repeat (go_big_quiet_step ((first | (go_at_call 49; exact lat_same _ (specSize_is 4 true HS.out _)) | (go_at_call 50; exact lat_call _ (HLI.out _ (HB.out _))))))
          refine wpQuiet_nil ?_
          rintro w3 ⟨⟨_, hb3⟩, rfl⟩
          have hB3 : Below w.heap.size w w3 := HB.out ⟨_, hb3⟩
          have ka' := ka.on hb3; clear ka C0 hb3 HB; have ka := ka'; clear ka'; have ra := ka.rule; have hB := hB3; clear hB3
          have HZ2 : Hid ((repsB 4 (rs.map Rq.dat) && netB 4 (nt.map Lp.dat)) = z) := by show _ = _; rw [← HZ.out, D1.out, D2.out, D3.out]; have := D4.out; simp [this]
          have bln : ln = 16 := by have := D3.out; omega
          have blr : lr = 4 := by have := D2.out; omega
          have BLN := Lib.hid bln; have BLR := Lib.hid blr; clear bln blr
          have bln : ln ≤ 49 := by have := BLN.out; omega
          have blr : lr ≤ 7 := by have := BLR.out; omega
          clear e1 e2 e3 e4 e4n hml HLI HS
          have HKA := Lib.hid ka; have HBB := Lib.hid hB; clear ka hB
          go_wp2
          go_loopw [3] (fun i wr => ∃ (k : Nat), k ≤ 4 ∧ i = .int .i64 k ∧ Hid (∀ j, j < k → goodP 4 (rs.map Rq.dat) j = true) ∧ Blk wr w.heap.size 33 #[.int .i64 4, .slice Ab lb cb, .slice Ar lr cr, .slice An ln cn] ∧ Below w.heap.size w wr) (fun i _ => 4 - (intOf i).toNat)
          case atStart => exact ⟨0, Nat.zero_le _, rfl, fun j hj => absurd hj (by omega), HKA.out, HBB.out⟩
          case round =>
            clear HKA HBB ra
            obtain ⟨k, hk, rfl, hall, ka, hB⟩ := hrel
            have ra := ka.rule
            by_cases hlt : k < 4
            · obtain ⟨b_, off, rfl, hb, hcs, hrv⟩ := RdK.at_ (RR.out.below hB) (k := k) (by rw [ELR.out]; have := BLR.out; omega)
              have hvl := FR.out.2 k (by have := BLR.out; omega)
              have hkl : k < lr := by have := BLR.out; omega
              have hkl2 : (k : Int) < (lr : Int) := by omega
              change ∀ j, j < 14 → wr.cell? ⟨b_, off + k * 14 + j, none⟩ = (KQ.cells (rs.getD k zQ))[j]? at hcs
              change KQ.rd wr w.heap.size (rs.getD k zQ) at hrv
              have HG : Hid (goodP 4 (rs.map Rq.dat) k = (repQ (rs.getD k zQ).dat && (decide ((rs.getD k zQ).n = 4) && decide ((rs.getD k zQ).id = (k : Int))))) := by show _ = _; unfold goodP; rw [dat_at]; rfl
              obtain ⟨u, hu⟩ : ∃ u, rs.getD k zQ = u := ⟨_, rfl⟩
              rw [hu] at hcs hvl hrv HG
              clear hu
              obtain ⟨g, hg⟩ : ∃ g, repQ u.dat = g := ⟨_, rfl⟩
              rw [hg] at HG
              have HCL := Lib.hid (fun (x : Lat wr) => specRepOk_is g u hg x.w ((RdQ.below (RdQ.more hrv hB.size) x.below).more x.below.size) hvl)
              clear hrv hvl hg
              obtain ⟨qn, qid, qown, qview, qleft, qvoted, qlv, qlx, qdn, qpr, qvo, qre, qds, qhs, qAv, qAp, qAo, qAr, qAd, qAh, qcv, qcp, qco, qcr, qcd, qch⟩ := u
              simp only [Rq.agg, Rq.cells] at HCL
              simp only at HG
              have hc0 : wr.cell? ⟨b_, off + k * 14, none⟩ = some (.int .i64 qn) := hcs 0 (by decide)
              have hc1 : wr.cell? ⟨b_, off + k * 14 + 1, none⟩ = some (.int .i64 qid) := hcs 1 (by decide)
              have hc2 : wr.cell? ⟨b_, off + k * 14 + 2, none⟩ = some (.int .i64 qown) := hcs 2 (by decide)
              have hc3 : wr.cell? ⟨b_, off + k * 14 + 3, none⟩ = some (.int .i64 qview) := hcs 3 (by decide)
              have hc4 : wr.cell? ⟨b_, off + k * 14 + 4, none⟩ = some (.int .i64 qleft) := hcs 4 (by decide)
              have hc5 : wr.cell? ⟨b_, off + k * 14 + 5, none⟩ = some (.slice qAv qvoted.length qcv) := hcs 5 (by decide)
              have hc6 : wr.cell? ⟨b_, off + k * 14 + 6, none⟩ = some (.int .i64 qlv) := hcs 6 (by decide)
              have hc7 : wr.cell? ⟨b_, off + k * 14 + 7, none⟩ = some (.int .i64 qlx) := hcs 7 (by decide)
              have hc8 : wr.cell? ⟨b_, off + k * 14 + 8, none⟩ = some (.int .i64 qdn) := hcs 8 (by decide)
              have hc9 : wr.cell? ⟨b_, off + k * 14 + 9, none⟩ = some (.slice qAp qpr.length qcp) := hcs 9 (by decide)
              have hc10 : wr.cell? ⟨b_, off + k * 14 + 10, none⟩ = some (.slice qAo qvo.length qco) := hcs 10 (by decide)
              have hc11 : wr.cell? ⟨b_, off + k * 14 + 11, none⟩ = some (.slice qAr qre.length qcr) := hcs 11 (by decide)
              have hc12 : wr.cell? ⟨b_, off + k * 14 + 12, none⟩ = some (.slice qAd qds.length qcd) := hcs 12 (by decide)
              have hc13 : wr.cell? ⟨b_, off + k * 14 + 13, none⟩ = some (.slice qAh qhs.length qch) := hcs 13 (by decide)
              clear hcs
              obtain ⟨lv0, elv0⟩ : ∃ m, qvoted.length = m := ⟨_, rfl⟩
              obtain ⟨lp0, elp0⟩ : ∃ m, qpr.length = m := ⟨_, rfl⟩
              obtain ⟨lo0, elo0⟩ : ∃ m, qvo.length = m := ⟨_, rfl⟩
              obtain ⟨lr0, elr0⟩ : ∃ m, qre.length = m := ⟨_, rfl⟩
              obtain ⟨ld0, eld0⟩ : ∃ m, qds.length = m := ⟨_, rfl⟩
              obtain ⟨lh0, elh0⟩ : ∃ m, qhs.length = m := ⟨_, rfl⟩
              simp only [elv0, elp0, elo0, elr0, eld0, elh0] at HCL hc5 hc9 hc10 hc11 hc12 hc13
              clear elv0 elp0 elo0 elr0 eld0 elh0
              have CA := fun x => lat_blk ka x
              have C0 := fun x : Lat wr => x.cell hc0
              have C1 := fun x : Lat wr => x.cell hc1
              have C2 := fun x : Lat wr => x.cell hc2
              have C3 := fun x : Lat wr => x.cell hc3
              have C4 := fun x : Lat wr => x.cell hc4
              have C5 := fun x : Lat wr => x.cell hc5
              have C6 := fun x : Lat wr => x.cell hc6
              have C7 := fun x : Lat wr => x.cell hc7
              have C8 := fun x : Lat wr => x.cell hc8
              have C9 := fun x : Lat wr => x.cell hc9
              have C10 := fun x : Lat wr => x.cell hc10
              have C11 := fun x : Lat wr => x.cell hc11
              have C12 := fun x : Lat wr => x.cell hc12
              have C13 := fun x : Lat wr => x.cell hc13
              have HKA := Lib.hid ka; have HBB := Lib.hid hB; clear ka hB hc0 hc1 hc2 hc3 hc4 hc5 hc6 hc7 hc8 hc9 hc10 hc11 hc12 hc13
              rcases g with _ | _
              · skip
                go_wp2
                refine wp_region_lat (by kernel_rfl) (by kernel_rfl) ?_
                repeat (go_big_quiet_step ((first | (go_at_call 51; exact lat_call _ (HCL.out _)))))
                refine wpQuiet_nil ?_
                rintro w4 ⟨⟨_, hb4⟩, rfl⟩
                have hB4 := HBB.out.trans (hb4.mono HBB.out.size); have ka4 := HKA.out.on hb4
                clear CA ra C0 C1 C2 C3 C4 C5 C6 C7 C8 C9 C10 C11 C12 C13
                go_wp2
                go_ret
                exact ⟨ret_bool (by rw [← HZ2.out, show repsB 4 (rs.map Rq.dat) = false from range_no (k := k) (by rw [List.length_map, ELR.out]; have := BLR.out; omega) (by rw [HG.out]; simp [Bool.false_and])]; rfl), hB4⟩
              by_cases f1 : qn = 4
              · have i1 : (qn != 4) = false := by simp [f1]
                have F1 := Lib.hid f1; clear f1
                by_cases f2 : qid = (k : Int)
                · have i2 : (qid != (k : Int)) = false := by simp [f2]
                  have F2 := Lib.hid f2; clear f2
                  go_wp2
                  refine wp_region_lat (by kernel_rfl) (by kernel_rfl) ?_
                  repeat (go_big_quiet_step ((first | (go_at_call 51; exact lat_call _ (HCL.out _)))))
                  refine wpQuiet_nil ?_
                  rintro w4 ⟨⟨_, hb4⟩, rfl⟩
                  have hB4 := HBB.out.trans (hb4.mono HBB.out.size); have ka4 := HKA.out.on hb4
                  clear CA ra C0 C1 C2 C3 C4 C5 C6 C7 C8 C9 C10 C11 C12 C13
                  go_wp2
                  go_roundw
                  case rel =>
                    refine ⟨k + 1, by omega, by go_num, fun j hj => ?_, ka4, hB4⟩
                    by_cases e : j = k
                    · rw [e, HG.out]; simp [F1.out, F2.out]
                    · exact hall.out j (by omega)
                  case measure => simp [intOf]; omega
                · have i2 : (qid != (k : Int)) = true := by simpa using f2
                  have F2 := Lib.hid f2; clear f2
                  go_wp2
                  refine wp_region_lat (by kernel_rfl) (by kernel_rfl) ?_
                  repeat (go_big_quiet_step ((first | (go_at_call 51; exact lat_call _ (HCL.out _)))))
                  refine wpQuiet_nil ?_
                  rintro w4 ⟨⟨_, hb4⟩, rfl⟩
                  have hB4 := HBB.out.trans (hb4.mono HBB.out.size); have ka4 := HKA.out.on hb4
                  clear CA ra C0 C1 C2 C3 C4 C5 C6 C7 C8 C9 C10 C11 C12 C13
                  go_wp2
                  go_ret
                  exact ⟨ret_bool (by rw [← HZ2.out, show repsB 4 (rs.map Rq.dat) = false from range_no (k := k) (by rw [List.length_map, ELR.out]; have := BLR.out; omega) (by rw [HG.out]; simp [F2.out])]; rfl), hB4⟩
              · have i1 : (qn != 4) = true := by simpa using f1
                have F1 := Lib.hid f1; clear f1
                go_wp2
                refine wp_region_lat (by kernel_rfl) (by kernel_rfl) ?_
                repeat (go_big_quiet_step ((first | (go_at_call 51; exact lat_call _ (HCL.out _)))))
                refine wpQuiet_nil ?_
                rintro w4 ⟨⟨_, hb4⟩, rfl⟩
                have hB4 := HBB.out.trans (hb4.mono HBB.out.size); have ka4 := HKA.out.on hb4
                clear CA ra C0 C1 C2 C3 C4 C5 C6 C7 C8 C9 C10 C11 C12 C13
                go_wp2
                go_ret
                exact ⟨ret_bool (by rw [← HZ2.out, show repsB 4 (rs.map Rq.dat) = false from range_no (k := k) (by rw [List.length_map, ELR.out]; have := BLR.out; omega) (by rw [HG.out]; simp [F1.out])]; rfl), hB4⟩
            · have HR1 : Hid (repsB 4 (rs.map Rq.dat) = true) := by show _ = _; exact range_yes fun j hj => hall.out j (by rw [List.length_map, ELR.out] at hj; have := BLR.out; omega)
              have HKA := Lib.hid ka; have HBB := Lib.hid hB; clear ka hB
              go_wp2
              go_loopw [4] (fun i wr => ∃ (k : Nat), k ≤ ln ∧ i = .int .i64 k ∧ Hid (∀ j, j < k → linkB 4 j ((nt.map Lp.dat).getD j []) = true) ∧ Blk wr w.heap.size 33 #[.int .i64 4, .slice Ab lb cb, .slice Ar lr cr, .slice An ln cn] ∧ Below w.heap.size w wr) (fun i _ => ln - (intOf i).toNat)
              case atStart => exact ⟨0, Nat.zero_le _, rfl, fun j hj => absurd hj (by omega), HKA.out, HBB.out⟩
              case round =>
                clear HKA HBB ra hk hlt hall
                obtain ⟨k, hk, rfl, hall, ka, hB⟩ := hrel
                have ra := ka.rule
                by_cases hlt : k < ln
                · obtain ⟨b_, off, rfl, hb, hcs, hrv⟩ := RdK.at_ (RNN.out.below hB) (k := k) (by rw [ELN.out]; omega)
                  have hvl := FN.out.2 k (by omega)
                  change ∀ j, j < 1 → wr.cell? ⟨b_, off + k * 1 + j, none⟩ = (KL.cells (nt.getD k zL))[j]? at hcs
                  change KL.rd wr w.heap.size (nt.getD k zL) at hrv
                  have hg : linkB 4 k ((nt.map Lp.dat).getD k []) = linkB 4 k (nt.getD k zL).dat := by rw [ldat_at]
                  obtain ⟨⟨ms, A', c'⟩, hu⟩ : ∃ u, nt.getD k zL = u := ⟨_, rfl⟩
                  rw [hu] at hcs hvl hrv hg
                  clear hu
                  have hc0 : wr.cell? ⟨b_, off + k, none⟩ = some (.slice A' ms.length c') := by have := hcs 0 (by decide); simpa [KL] using this
                  clear hcs
                  have HVL := Lib.hid (show ms.length ≤ 1048576 ∧ ∀ i, i < ms.length → FewM (ms.getD i zM) from hvl)
                  have hrv2 : RdK KM wr w.heap.size A' ms := hrv
                  have HRV := Lib.hid (RdK.more hrv2 hB.size)
                  obtain ⟨m2, hm2⟩ : ∃ m, ms.length = m := ⟨_, rfl⟩
                  have HG : Hid (linkB 4 k ((nt.map Lp.dat).getD k []) = (decide (m2 ≤ 80) && (!(decide ((k : Int) / 4 = (k : Int) % 4) && decide (0 < m2)) && (ms.map Mp.dat).all msgD))) := by show _ = _; rw [hg]; unfold linkB Lp.dat; simp only [List.length_map, hm2]
                  rw [hm2] at hc0
                  have HM2 := Lib.hid hm2
                  clear hm2 hg hrv hrv2 hvl
                  obtain ⟨qd, hqd⟩ : ∃ q : Int, (k : Int) / 4 = q := ⟨_, rfl⟩
                  obtain ⟨qr, hqr⟩ : ∃ q : Int, (k : Int) % 4 = q := ⟨_, rfl⟩
                  rw [hqd, hqr] at HG
                  have b1 : 0 ≤ qd ∧ qd ≤ 49 := by omega
                  have b2 : 0 ≤ qr ∧ qr ≤ 49 := by omega
                  have t1 : (k : Int).tdiv 4 = qd := by rw [Int.tdiv_eq_ediv_of_nonneg (by omega)]; exact hqd
                  have t2 : (k : Int).tmod 4 = qr := by rw [Int.tmod_eq_emod_of_nonneg (by omega)]; exact hqr
                  have t3 : IntKind.i64.wrap qd = qd := IntWalk.i64_in _ (by omega)
                  have t4 : IntKind.i64.wrap qr = qr := IntWalk.i64_in _ (by omega)
                  clear hqd hqr b1 b2
                  have CA := fun x => lat_blk ka x
                  have C0 := fun x : Lat wr => x.cell hc0
                  have hbw : b_ < wr.heap.size := Nat.lt_of_lt_of_le hb hB.size
                  have HKA := Lib.hid ka; have HBB := Lib.hid hB; have HC0 := Lib.hid hc0; clear ka hB hc0
                  by_cases f1 : 80 < m2
                  · have i1 : decide ((80 : Int) < (m2 : Int)) = true := by simp; omega
                    have i1n : decide (80 < m2) = true := by simp; omega
                    have F1 := Lib.hid f1; clear f1
                    go_wp2
                    refine wp_region_lat (by kernel_rfl) (by kernel_rfl) ?_
                    repeat (go_big_quiet_step (fail))
                    refine wpQuiet_nil ?_
                    rintro w4 ⟨⟨_, hb4⟩, rfl⟩
                    have hB4 := HBB.out.trans (hb4.mono HBB.out.size); have ka4 := HKA.out.on hb4
                    have hc4 : w4.cell? ⟨b_, off + k, none⟩ = some (.slice A' m2 c') := (hb4.cell (p := ⟨b_, off + k, none⟩) hbw).trans HC0.out
                    have HR4 := Lib.hid (HRV.out.on hb4)
                    clear CA C0 ra HKA HBB HC0 HRV
                    clear hc4
                    go_wp2
                    go_ret
                    exact ⟨ret_bool (by rw [← HZ2.out, HR1.out, show netB 4 (nt.map Lp.dat) = false from range_no (k := k) (by rw [List.length_map, ELN.out]; exact hlt) (by rw [HG.out]; have := F1.out; simp; omega)]; rfl), hB4⟩
                  · have i1 : decide ((80 : Int) < (m2 : Int)) = false := by simp; omega
                    have i1n : decide (80 < m2) = false := by simp; omega
                    have F1 : Hid (m2 ≤ 80) := by show _ ≤ _; omega
                    have bm2 : m2 ≤ 80 := F1.out
                    clear f1
                    by_cases f2 : qd = qr
                    · have i2 : (qd == qr) = true := by simp [f2]
                      by_cases f3 : 0 < m2
                      · have i3 : decide ((0 : Int) < (m2 : Int)) = true := by simp; omega
                        have i3n : decide (0 < m2) = true := by simp; omega
                        have F2 := Lib.hid f2; have F3 := Lib.hid f3; clear f2
                        go_wp2
                        refine wp_region_lat (by kernel_rfl) (by kernel_rfl) ?_
                        repeat (go_big_quiet_step (fail))
                        refine wpQuiet_nil ?_
                        rintro w4 ⟨⟨_, hb4⟩, rfl⟩
                        have hB4 := HBB.out.trans (hb4.mono HBB.out.size); have ka4 := HKA.out.on hb4
                        have hc4 : w4.cell? ⟨b_, off + k, none⟩ = some (.slice A' m2 c') := (hb4.cell (p := ⟨b_, off + k, none⟩) hbw).trans HC0.out
                        have HR4 := Lib.hid (HRV.out.on hb4)
                        clear CA C0 ra HKA HBB HC0 HRV
                        clear hc4
                        go_wp2
                        go_ret
                        exact ⟨ret_bool (by rw [← HZ2.out, HR1.out, show netB 4 (nt.map Lp.dat) = false from range_no (k := k) (by rw [List.length_map, ELN.out]; exact hlt) (by rw [HG.out]; simp [F2.out, F3.out])]; rfl), hB4⟩
                      · obtain rfl : m2 = 0 := by omega
                        have F2 := Lib.hid f2; clear f2 f3
                        go_wp2
                        refine wp_region_lat (by kernel_rfl) (by kernel_rfl) ?_
                        repeat (go_big_quiet_step (fail))
                        refine wpQuiet_nil ?_
                        rintro w4 ⟨⟨_, hb4⟩, rfl⟩
                        have hB4 := HBB.out.trans (hb4.mono HBB.out.size); have ka4 := HKA.out.on hb4
                        have hc4 : w4.cell? ⟨b_, off + k, none⟩ = some (.slice A' 0 c') := (hb4.cell (p := ⟨b_, off + k, none⟩) hbw).trans HC0.out
                        have HR4 := Lib.hid (HRV.out.on hb4)
                        clear CA C0 ra HKA HBB HC0 HRV
                        have HK4 := Lib.hid ka4; have HB4 := Lib.hid hB4; clear ka4 hB4
                        have HC4 := Lib.hid hc4; clear hc4
                        have ra := HK4.out.rule
                        go_wp2
                        go_loopw [5] (fun i wr => ∃ (j : Nat), j ≤ 0 ∧ i = .int .i64 j ∧ Hid (∀ t, t < j → msgD (ms.getD t zM).dat = true) ∧ Below w4.heap.size w4 wr) (fun i _ => 0 - (intOf i).toNat)
                        case atStart => exact ⟨0, Nat.zero_le _, rfl, fun j hj => absurd hj (by omega), Below.refl _ _⟩
                        case round =>
                          clear ra
                          obtain ⟨j, hj, rfl, halj, hbj⟩ := hrel
                          have kaj := HK4.out.on hbj
                          have ra := kaj.rule
                          have hBj := on_ HB4.out hbj
                          have hc0 := (hbj.cell (p := ⟨b_, off + k, none⟩) (World.block_lt_of_cell? w4 _ HC4.out)).trans HC4.out
                          by_cases hjt : j < 0
                          · exact absurd hjt (by omega)
                          · have HAL : Hid ((ms.map Mp.dat).all msgD = true) := by show _ = _; exact all_of msgD (ms.map Mp.dat) zM.dat fun t ht => by rw [same_map]; exact halj.out t (by rw [List.length_map, HM2.out] at ht; omega)
                            go_wp2
                            go_roundw
                            case rel =>
                              refine ⟨k + 1, by omega, by go_num, fun j hj => ?_, kaj, hBj⟩
                              by_cases e : j = k
                              · rw [e, HG.out, HAL.out]; simp
                              · exact hall.out j (by omega)
                            case measure => simp [intOf]; omega
                    · have i2 : (qd == qr) = false := by simpa using f2
                      have F2 := Lib.hid f2; clear f2
                      go_wp2
                      refine wp_region_lat (by kernel_rfl) (by kernel_rfl) ?_
                      repeat (go_big_quiet_step (fail))
                      refine wpQuiet_nil ?_
                      rintro w4 ⟨⟨_, hb4⟩, rfl⟩
                      have hB4 := HBB.out.trans (hb4.mono HBB.out.size); have ka4 := HKA.out.on hb4
                      have hc4 : w4.cell? ⟨b_, off + k, none⟩ = some (.slice A' m2 c') := (hb4.cell (p := ⟨b_, off + k, none⟩) hbw).trans HC0.out
                      have HR4 := Lib.hid (HRV.out.on hb4)
                      clear CA C0 ra HKA HBB HC0 HRV
                      have HK4 := Lib.hid ka4; have HB4 := Lib.hid hB4; clear ka4 hB4
                      have HC4 := Lib.hid hc4; clear hc4
                      have ra := HK4.out.rule
                      go_wp2
                      go_loopw [5] (fun i wr => ∃ (j : Nat), j ≤ m2 ∧ i = .int .i64 j ∧ Hid (∀ t, t < j → msgD (ms.getD t zM).dat = true) ∧ Below w4.heap.size w4 wr) (fun i _ => m2 - (intOf i).toNat)
                      case atStart => exact ⟨0, Nat.zero_le _, rfl, fun j hj => absurd hj (by omega), Below.refl _ _⟩
                      case round =>
                        clear ra
                        obtain ⟨j, hj, rfl, halj, hbj⟩ := hrel
                        have kaj := HK4.out.on hbj
                        have ra := kaj.rule
                        have hBj := on_ HB4.out hbj
                        have hc0 := (hbj.cell (p := ⟨b_, off + k, none⟩) (World.block_lt_of_cell? w4 _ HC4.out)).trans HC4.out
                        by_cases hjt : j < m2
                        · obtain ⟨b2_, off2, rfl, hb2, hcs, hrv⟩ := RdK.at_ (HR4.out.below hbj) (k := j) (by rw [HM2.out]; omega)
                          have hvl := HVL.out.2 j (by rw [HM2.out]; omega)
                          change KM.rd _ w4.heap.size (ms.getD j zM) at hrv
                          have hcs2 := fun i h => hcs i h
                          change ∀ i, i < 6 → _ = (KM.cells (ms.getD j zM))[i]? at hcs2
                          obtain ⟨u, hu⟩ : ∃ u, ms.getD j zM = u := ⟨_, rfl⟩
                          rw [hu] at hcs2 hvl hrv
                          have HU := Lib.hid hu; clear hu
                          obtain ⟨g, hg⟩ : ∃ g, msgD u.dat = g := ⟨_, rfl⟩
                          have HGG := Lib.hid hg
                          have hcl := specMsgOk_is g u.k u.v u.x u.a u.b u.A u.c u.vs hg _ (Rd.more hrv hbj.size) hvl
                          have q0 : World.cell? _ ⟨b2_, off2 + j * 6, none⟩ = some (.int .i64 u.k) := hcs2 0 (by decide)
                          have q1 : World.cell? _ ⟨b2_, off2 + j * 6 + 1, none⟩ = some (.int .i64 u.v) := hcs2 1 (by decide)
                          have q2 : World.cell? _ ⟨b2_, off2 + j * 6 + 2, none⟩ = some (.int .i64 u.x) := hcs2 2 (by decide)
                          have q3 : World.cell? _ ⟨b2_, off2 + j * 6 + 3, none⟩ = some (.int .i64 u.a) := hcs2 3 (by decide)
                          have q4 : World.cell? _ ⟨b2_, off2 + j * 6 + 4, none⟩ = some (.int .i64 u.b) := hcs2 4 (by decide)
                          have q5 : World.cell? _ ⟨b2_, off2 + j * 6 + 5, none⟩ = some (.slice u.A u.vs.length u.c) := hcs2 5 (by decide)
                          clear hcs hcs2 hrv hvl hg
                          obtain ⟨mk, mv, mx, ma, mb, vs, A2, c2⟩ := u
                          simp only at q0 q1 q2 q3 q4 q5 hcl
                          obtain ⟨lq, hlq⟩ : ∃ l, vs.length = l := ⟨_, rfl⟩
                          rw [hlq] at hcl q5
                          have HCL := Lib.hid hcl; clear hcl hlq
                          have HBJ := Lib.hid hbj; have HBB := Lib.hid hBj; clear hbj hBj kaj
                          cases g
                          · go_wp2_with fail
                            refine HCL.out.mono ?_
                            rintro e w5 ⟨rfl, hb5⟩
                            have hB5 := on_ HBB.out hb5
                            clear hb5 ra hc0 q0 q1 q2 q3 q4 q5
                            go_wp2
                            go_ret
                            exact ⟨ret_bool (by rw [← HZ2.out, HR1.out, show netB 4 (nt.map Lp.dat) = false from range_no (k := k) (by rw [List.length_map, ELN.out]; exact hlt) (by rw [HG.out, all_take_no msgD (ms.map Mp.dat) zM.dat j (by rw [List.length_map, HM2.out]; exact hjt) (by rw [same_map, HU.out]; exact HGG.out)]; simp)]; rfl), hB5⟩
                          · go_wp2_with fail
                            refine HCL.out.mono ?_
                            rintro e w5 ⟨rfl, hb5⟩
                            have hbj5 := HBJ.out.trans (hb5.mono HBJ.out.size)
                            clear hb5 ra hc0 q0 q1 q2 q3 q4 q5
                            go_wp2
                            go_roundw
                            case rel =>
                              refine ⟨j + 1, by omega, by go_num, fun t ht => ?_, hbj5⟩
                              by_cases e : t = j
                              · rw [e, HU.out]; exact HGG.out
                              · exact halj.out t (by omega)
                            case measure => simp [intOf]; omega
                        · have HAL : Hid ((ms.map Mp.dat).all msgD = true) := by show _ = _; exact all_of msgD (ms.map Mp.dat) zM.dat fun t ht => by rw [same_map]; exact halj.out t (by rw [List.length_map, HM2.out] at ht; omega)
                          go_wp2
                          go_roundw
                          case rel =>
                            refine ⟨k + 1, by omega, by go_num, fun j hj => ?_, kaj, hBj⟩
                            by_cases e : j = k
                            · rw [e, HG.out, HAL.out]; have h1 := F1.out; have h2 := F2.out; simp [h1, h2]
                            · exact hall.out j (by omega)
                          case measure => simp [intOf]; omega
                · have HN1 : Hid (netB 4 (nt.map Lp.dat) = true) := by show _ = _; exact range_yes fun j hj => hall.out j (by rw [List.length_map, ELN.out] at hj; omega)
                  go_wp2
                  go_ret
                  exact ⟨ret_bool (by rw [← HZ2.out, HR1.out, HN1.out]; rfl), hB⟩
        · have e4 : decide ((1 : Int) < (m : Int)) = true := by simp; omega
          have e4n : decide (1 < m) = true := by simp; omega
          have D4 := Lib.hid d4; clear d4
          go_enter Tryz.func28, Tryz.ntmps28
          go_wp2
          refine wp_region_lat (by kernel_rfl) (by kernel_rfl) ?_
          repeat (go_big_quiet_step ((first | (go_at_call 49; exact lat_same _ (specSize_is 4 true HS.out _)) | (go_at_call 50; exact lat_call _ (HLI.out _ (HB.out _))))))
          refine wpQuiet_nil ?_
          rintro w3 ⟨⟨_, hb3⟩, rfl⟩
          have hB3 : Below w.heap.size w w3 := HB.out ⟨_, hb3⟩
          clear C0 ka
          go_wp2
          go_ret
          exact ⟨ret_bool (by rw [← HZ.out, show decide ((m : Int) ≤ 4 / 3) = false from by have := D4.out; simp; omega]; simp), hB3⟩
      · have e3 : ((ln : Int) != 16) = true := by simpa using d3
        have D3 := Lib.hid d3; clear d3
        go_enter Tryz.func28, Tryz.ntmps28
        go_wp2
        refine wp_region_lat (by kernel_rfl) (by kernel_rfl) ?_
        repeat (go_big_quiet_step ((first | (go_at_call 49; exact lat_same _ (specSize_is 4 true HS.out _)) | (go_at_call 50; exact lat_call _ (HLI.out _ (HB.out _))))))
        refine wpQuiet_nil ?_
        rintro w3 ⟨⟨_, hb3⟩, rfl⟩
        have hB3 : Below w.heap.size w w3 := HB.out ⟨_, hb3⟩
        clear C0 ka
        go_wp2
        go_ret
        exact ⟨ret_bool (by rw [← HZ.out]; simp [D3.out]), hB3⟩
    · have e2 : ((lr : Int) != 4) = true := by simpa using d2
      have D2 := Lib.hid d2; clear d2
      go_enter Tryz.func28, Tryz.ntmps28
      go_wp2
      refine wp_region_lat (by kernel_rfl) (by kernel_rfl) ?_
      repeat (go_big_quiet_step ((first | (go_at_call 49; exact lat_same _ (specSize_is 4 true HS.out _)) | (go_at_call 50; exact lat_call _ (HLI.out _ (HB.out _))))))
      refine wpQuiet_nil ?_
      rintro w3 ⟨⟨_, hb3⟩, rfl⟩
      have hB3 : Below w.heap.size w w3 := HB.out ⟨_, hb3⟩
      clear C0 ka
      go_wp2
      go_ret
      exact ⟨ret_bool (by rw [← HZ.out]; simp [D2.out]), hB3⟩
  · have e1 : ((lb : Int) != 4) = true := by simpa using d1
    have D1 := Lib.hid d1; clear d1
    go_enter Tryz.func28, Tryz.ntmps28
    go_wp2
    refine wp_region_lat (by kernel_rfl) (by kernel_rfl) ?_
    repeat (go_big_quiet_step ((first | (go_at_call 49; exact lat_same _ (specSize_is 4 true HS.out _)) | (go_at_call 50; exact lat_call _ (HLI.out _ (HB.out _))))))
    refine wpQuiet_nil ?_
    rintro w3 ⟨⟨_, hb3⟩, rfl⟩
    have hB3 : Below w.heap.size w w3 := HB.out ⟨_, hb3⟩
    clear C0 ka
    go_wp2
    go_ret
    exact ⟨ret_bool (by rw [← HZ.out]; simp [D1.out]), hB3⟩

set_option maxHeartbeats 12800000 in
theorem specClusterOk_7 (z : Bool) (q : Cq) (hn : q.n = 7) (hz : (flagsB 7 q.bad && (lensC q.dat && (repsB 7 (q.rs.map Rq.dat) && netB 7 (q.nt.map Lp.dat)))) = z) (w : World) (hr : RdC4 w w.heap.size q) (hf : FewC q) :
    Calls Tryz.prog 28 #[q.agg] w fun e w' => e = .returned (.bool z) ∧ Below w.heap.size w w' := by
  obtain ⟨m, hm⟩ : ∃ m, liesN q.bad = m := ⟨_, rfl⟩
  have HLI := Lib.hid (fun (W : World) (h : Below w.heap.size w W) => lies_is m q hm W ((hr.b.below h).more h.size) hf.b)
  obtain ⟨n, bad, rs, nt, Ab, Ar, An, cb, cr, cn⟩ := q
  obtain ⟨rb, rr, rn⟩ := hr
  obtain ⟨fb, fr, fn⟩ := hf
  simp only [Cq.agg, Cq.cells] at *
  subst hn
  unfold flagsB lensC Cq.dat at hz
  simp only [List.length_map, hm] at hz
  obtain ⟨lb, elb⟩ : ∃ m, bad.length = m := ⟨_, rfl⟩
  obtain ⟨lr, elr⟩ : ∃ m, rs.length = m := ⟨_, rfl⟩
  obtain ⟨ln, eln⟩ : ∃ m, nt.length = m := ⟨_, rfl⟩
  simp only [elb, elr, eln] at hz HLI fb fr fn ⊢
  have HZ := Lib.hid hz; have ELR := Lib.hid elr; have ELN := Lib.hid eln; have RR := Lib.hid rr; have RNN := Lib.hid rn; have FR := Lib.hid fr; have FN := Lib.hid fn
  have hml : m ≤ lb := by rw [← hm, ← elb]; exact lies_le bad
  clear hz elb elr eln hm rb rr rn fr fn
  have HS : Hid (sizeB 7 = true) := rfl
  have ka := Blk.new w 33 #[.int .i64 7, .slice Ab lb cb, .slice Ar lr cr, .slice An ln cn]
  have C0 := fun x => lat_blk ka x
  have HB := Lib.hid (fun (x : Lat (w.alloc (.cells #[.int .i64 7, .slice Ab lb cb, .slice Ar lr cr, .slice An ln cn] 33))) => on_ (up_ (Below.refl w.heap.size w) _) x.below)
  by_cases d1 : (lb : Int) = 7
  · have e1 : ((lb : Int) != 7) = false := by simp [d1]
    have D1 := Lib.hid d1; clear d1
    by_cases d2 : (lr : Int) = 7
    · have e2 : ((lr : Int) != 7) = false := by simp [d2]
      have D2 := Lib.hid d2; clear d2
      by_cases d3 : (ln : Int) = 49
      · have e3 : ((ln : Int) != 49) = false := by simp [d3]
        have D3 := Lib.hid d3; clear d3
        by_cases d4 : (m : Int) ≤ 2
        · have e4 : decide ((2 : Int) < (m : Int)) = false := by simp; omega
          have e4n : decide (2 < m) = false := by simp; omega
          have D4 := Lib.hid d4; clear d4
          have bm : m ≤ 100 := by have := D4.out; omega
          go_enter Tryz.func28, Tryz.ntmps28
          go_wp2
          refine wp_region_lat (by kernel_rfl) (by kernel_rfl) ?_
          repeat (go_big_quiet_step ((first | (go_at_call 49; exact lat_same _ (specSize_is 7 true HS.out _)) | (go_at_call 50; exact lat_call _ (HLI.out _ (HB.out _))))))
          refine wpQuiet_nil ?_
          rintro w3 ⟨⟨_, hb3⟩, rfl⟩
          have hB3 : Below w.heap.size w w3 := HB.out ⟨_, hb3⟩
          have ka' := ka.on hb3; clear ka C0 hb3 HB; have ka := ka'; clear ka'; have ra := ka.rule; have hB := hB3; clear hB3
          have HZ2 : Hid ((repsB 7 (rs.map Rq.dat) && netB 7 (nt.map Lp.dat)) = z) := by show _ = _; rw [← HZ.out, D1.out, D2.out, D3.out]; have := D4.out; simp [this]
          have bln : ln = 49 := by have := D3.out; omega
          have blr : lr = 7 := by have := D2.out; omega
          have BLN := Lib.hid bln; have BLR := Lib.hid blr; clear bln blr
          have bln : ln ≤ 49 := by have := BLN.out; omega
          have blr : lr ≤ 7 := by have := BLR.out; omega
          clear e1 e2 e3 e4 e4n hml HLI HS
          have HKA := Lib.hid ka; have HBB := Lib.hid hB; clear ka hB
          go_wp2
          go_loopw [3] (fun i wr => ∃ (k : Nat), k ≤ 7 ∧ i = .int .i64 k ∧ Hid (∀ j, j < k → goodP 7 (rs.map Rq.dat) j = true) ∧ Blk wr w.heap.size 33 #[.int .i64 7, .slice Ab lb cb, .slice Ar lr cr, .slice An ln cn] ∧ Below w.heap.size w wr) (fun i _ => 7 - (intOf i).toNat)
          case atStart => exact ⟨0, Nat.zero_le _, rfl, fun j hj => absurd hj (by omega), HKA.out, HBB.out⟩
          case round =>
            clear HKA HBB ra
            obtain ⟨k, hk, rfl, hall, ka, hB⟩ := hrel
            have ra := ka.rule
            by_cases hlt : k < 7
            · obtain ⟨b_, off, rfl, hb, hcs, hrv⟩ := RdK.at_ (RR.out.below hB) (k := k) (by rw [ELR.out]; have := BLR.out; omega)
              have hvl := FR.out.2 k (by have := BLR.out; omega)
              have hkl : k < lr := by have := BLR.out; omega
              have hkl2 : (k : Int) < (lr : Int) := by omega
              change ∀ j, j < 14 → wr.cell? ⟨b_, off + k * 14 + j, none⟩ = (KQ.cells (rs.getD k zQ))[j]? at hcs
              change KQ.rd wr w.heap.size (rs.getD k zQ) at hrv
              have HG : Hid (goodP 7 (rs.map Rq.dat) k = (repQ (rs.getD k zQ).dat && (decide ((rs.getD k zQ).n = 7) && decide ((rs.getD k zQ).id = (k : Int))))) := by show _ = _; unfold goodP; rw [dat_at]; rfl
              obtain ⟨u, hu⟩ : ∃ u, rs.getD k zQ = u := ⟨_, rfl⟩
              rw [hu] at hcs hvl hrv HG
              clear hu
              obtain ⟨g, hg⟩ : ∃ g, repQ u.dat = g := ⟨_, rfl⟩
              rw [hg] at HG
              have HCL := Lib.hid (fun (x : Lat wr) => specRepOk_is g u hg x.w ((RdQ.below (RdQ.more hrv hB.size) x.below).more x.below.size) hvl)
              clear hrv hvl hg
              obtain ⟨qn, qid, qown, qview, qleft, qvoted, qlv, qlx, qdn, qpr, qvo, qre, qds, qhs, qAv, qAp, qAo, qAr, qAd, qAh, qcv, qcp, qco, qcr, qcd, qch⟩ := u
              simp only [Rq.agg, Rq.cells] at HCL
              simp only at HG
              have hc0 : wr.cell? ⟨b_, off + k * 14, none⟩ = some (.int .i64 qn) := hcs 0 (by decide)
              have hc1 : wr.cell? ⟨b_, off + k * 14 + 1, none⟩ = some (.int .i64 qid) := hcs 1 (by decide)
              have hc2 : wr.cell? ⟨b_, off + k * 14 + 2, none⟩ = some (.int .i64 qown) := hcs 2 (by decide)
              have hc3 : wr.cell? ⟨b_, off + k * 14 + 3, none⟩ = some (.int .i64 qview) := hcs 3 (by decide)
              have hc4 : wr.cell? ⟨b_, off + k * 14 + 4, none⟩ = some (.int .i64 qleft) := hcs 4 (by decide)
              have hc5 : wr.cell? ⟨b_, off + k * 14 + 5, none⟩ = some (.slice qAv qvoted.length qcv) := hcs 5 (by decide)
              have hc6 : wr.cell? ⟨b_, off + k * 14 + 6, none⟩ = some (.int .i64 qlv) := hcs 6 (by decide)
              have hc7 : wr.cell? ⟨b_, off + k * 14 + 7, none⟩ = some (.int .i64 qlx) := hcs 7 (by decide)
              have hc8 : wr.cell? ⟨b_, off + k * 14 + 8, none⟩ = some (.int .i64 qdn) := hcs 8 (by decide)
              have hc9 : wr.cell? ⟨b_, off + k * 14 + 9, none⟩ = some (.slice qAp qpr.length qcp) := hcs 9 (by decide)
              have hc10 : wr.cell? ⟨b_, off + k * 14 + 10, none⟩ = some (.slice qAo qvo.length qco) := hcs 10 (by decide)
              have hc11 : wr.cell? ⟨b_, off + k * 14 + 11, none⟩ = some (.slice qAr qre.length qcr) := hcs 11 (by decide)
              have hc12 : wr.cell? ⟨b_, off + k * 14 + 12, none⟩ = some (.slice qAd qds.length qcd) := hcs 12 (by decide)
              have hc13 : wr.cell? ⟨b_, off + k * 14 + 13, none⟩ = some (.slice qAh qhs.length qch) := hcs 13 (by decide)
              clear hcs
              obtain ⟨lv0, elv0⟩ : ∃ m, qvoted.length = m := ⟨_, rfl⟩
              obtain ⟨lp0, elp0⟩ : ∃ m, qpr.length = m := ⟨_, rfl⟩
              obtain ⟨lo0, elo0⟩ : ∃ m, qvo.length = m := ⟨_, rfl⟩
              obtain ⟨lr0, elr0⟩ : ∃ m, qre.length = m := ⟨_, rfl⟩
              obtain ⟨ld0, eld0⟩ : ∃ m, qds.length = m := ⟨_, rfl⟩
              obtain ⟨lh0, elh0⟩ : ∃ m, qhs.length = m := ⟨_, rfl⟩
              simp only [elv0, elp0, elo0, elr0, eld0, elh0] at HCL hc5 hc9 hc10 hc11 hc12 hc13
              clear elv0 elp0 elo0 elr0 eld0 elh0
              have CA := fun x => lat_blk ka x
              have C0 := fun x : Lat wr => x.cell hc0
              have C1 := fun x : Lat wr => x.cell hc1
              have C2 := fun x : Lat wr => x.cell hc2
              have C3 := fun x : Lat wr => x.cell hc3
              have C4 := fun x : Lat wr => x.cell hc4
              have C5 := fun x : Lat wr => x.cell hc5
              have C6 := fun x : Lat wr => x.cell hc6
              have C7 := fun x : Lat wr => x.cell hc7
              have C8 := fun x : Lat wr => x.cell hc8
              have C9 := fun x : Lat wr => x.cell hc9
              have C10 := fun x : Lat wr => x.cell hc10
              have C11 := fun x : Lat wr => x.cell hc11
              have C12 := fun x : Lat wr => x.cell hc12
              have C13 := fun x : Lat wr => x.cell hc13
              have HKA := Lib.hid ka; have HBB := Lib.hid hB; clear ka hB hc0 hc1 hc2 hc3 hc4 hc5 hc6 hc7 hc8 hc9 hc10 hc11 hc12 hc13
              rcases g with _ | _
              · skip
                go_wp2
                refine wp_region_lat (by kernel_rfl) (by kernel_rfl) ?_
                repeat (go_big_quiet_step ((first | (go_at_call 51; exact lat_call _ (HCL.out _)))))
                refine wpQuiet_nil ?_
                rintro w4 ⟨⟨_, hb4⟩, rfl⟩
                have hB4 := HBB.out.trans (hb4.mono HBB.out.size); have ka4 := HKA.out.on hb4
                clear CA ra C0 C1 C2 C3 C4 C5 C6 C7 C8 C9 C10 C11 C12 C13
                go_wp2
                go_ret
                exact ⟨ret_bool (by rw [← HZ2.out, show repsB 7 (rs.map Rq.dat) = false from range_no (k := k) (by rw [List.length_map, ELR.out]; have := BLR.out; omega) (by rw [HG.out]; simp [Bool.false_and])]; rfl), hB4⟩
              by_cases f1 : qn = 7
              · have i1 : (qn != 7) = false := by simp [f1]
                have F1 := Lib.hid f1; clear f1
                by_cases f2 : qid = (k : Int)
                · have i2 : (qid != (k : Int)) = false := by simp [f2]
                  have F2 := Lib.hid f2; clear f2
                  go_wp2
                  refine wp_region_lat (by kernel_rfl) (by kernel_rfl) ?_
                  repeat (go_big_quiet_step ((first | (go_at_call 51; exact lat_call _ (HCL.out _)))))
                  refine wpQuiet_nil ?_
                  rintro w4 ⟨⟨_, hb4⟩, rfl⟩
                  have hB4 := HBB.out.trans (hb4.mono HBB.out.size); have ka4 := HKA.out.on hb4
                  clear CA ra C0 C1 C2 C3 C4 C5 C6 C7 C8 C9 C10 C11 C12 C13
                  go_wp2
                  go_roundw
                  case rel =>
                    refine ⟨k + 1, by omega, by go_num, fun j hj => ?_, ka4, hB4⟩
                    by_cases e : j = k
                    · rw [e, HG.out]; simp [F1.out, F2.out]
                    · exact hall.out j (by omega)
                  case measure => simp [intOf]; omega
                · have i2 : (qid != (k : Int)) = true := by simpa using f2
                  have F2 := Lib.hid f2; clear f2
                  go_wp2
                  refine wp_region_lat (by kernel_rfl) (by kernel_rfl) ?_
                  repeat (go_big_quiet_step ((first | (go_at_call 51; exact lat_call _ (HCL.out _)))))
                  refine wpQuiet_nil ?_
                  rintro w4 ⟨⟨_, hb4⟩, rfl⟩
                  have hB4 := HBB.out.trans (hb4.mono HBB.out.size); have ka4 := HKA.out.on hb4
                  clear CA ra C0 C1 C2 C3 C4 C5 C6 C7 C8 C9 C10 C11 C12 C13
                  go_wp2
                  go_ret
                  exact ⟨ret_bool (by rw [← HZ2.out, show repsB 7 (rs.map Rq.dat) = false from range_no (k := k) (by rw [List.length_map, ELR.out]; have := BLR.out; omega) (by rw [HG.out]; simp [F2.out])]; rfl), hB4⟩
              · have i1 : (qn != 7) = true := by simpa using f1
                have F1 := Lib.hid f1; clear f1
                go_wp2
                refine wp_region_lat (by kernel_rfl) (by kernel_rfl) ?_
                repeat (go_big_quiet_step ((first | (go_at_call 51; exact lat_call _ (HCL.out _)))))
                refine wpQuiet_nil ?_
                rintro w4 ⟨⟨_, hb4⟩, rfl⟩
                have hB4 := HBB.out.trans (hb4.mono HBB.out.size); have ka4 := HKA.out.on hb4
                clear CA ra C0 C1 C2 C3 C4 C5 C6 C7 C8 C9 C10 C11 C12 C13
                go_wp2
                go_ret
                exact ⟨ret_bool (by rw [← HZ2.out, show repsB 7 (rs.map Rq.dat) = false from range_no (k := k) (by rw [List.length_map, ELR.out]; have := BLR.out; omega) (by rw [HG.out]; simp [F1.out])]; rfl), hB4⟩
            · have HR1 : Hid (repsB 7 (rs.map Rq.dat) = true) := by show _ = _; exact range_yes fun j hj => hall.out j (by rw [List.length_map, ELR.out] at hj; have := BLR.out; omega)
              have HKA := Lib.hid ka; have HBB := Lib.hid hB; clear ka hB
              go_wp2
              go_loopw [4] (fun i wr => ∃ (k : Nat), k ≤ ln ∧ i = .int .i64 k ∧ Hid (∀ j, j < k → linkB 7 j ((nt.map Lp.dat).getD j []) = true) ∧ Blk wr w.heap.size 33 #[.int .i64 7, .slice Ab lb cb, .slice Ar lr cr, .slice An ln cn] ∧ Below w.heap.size w wr) (fun i _ => ln - (intOf i).toNat)
              case atStart => exact ⟨0, Nat.zero_le _, rfl, fun j hj => absurd hj (by omega), HKA.out, HBB.out⟩
              case round =>
                clear HKA HBB ra hk hlt hall
                obtain ⟨k, hk, rfl, hall, ka, hB⟩ := hrel
                have ra := ka.rule
                by_cases hlt : k < ln
                · obtain ⟨b_, off, rfl, hb, hcs, hrv⟩ := RdK.at_ (RNN.out.below hB) (k := k) (by rw [ELN.out]; omega)
                  have hvl := FN.out.2 k (by omega)
                  change ∀ j, j < 1 → wr.cell? ⟨b_, off + k * 1 + j, none⟩ = (KL.cells (nt.getD k zL))[j]? at hcs
                  change KL.rd wr w.heap.size (nt.getD k zL) at hrv
                  have hg : linkB 7 k ((nt.map Lp.dat).getD k []) = linkB 7 k (nt.getD k zL).dat := by rw [ldat_at]
                  obtain ⟨⟨ms, A', c'⟩, hu⟩ : ∃ u, nt.getD k zL = u := ⟨_, rfl⟩
                  rw [hu] at hcs hvl hrv hg
                  clear hu
                  have hc0 : wr.cell? ⟨b_, off + k, none⟩ = some (.slice A' ms.length c') := by have := hcs 0 (by decide); simpa [KL] using this
                  clear hcs
                  have HVL := Lib.hid (show ms.length ≤ 1048576 ∧ ∀ i, i < ms.length → FewM (ms.getD i zM) from hvl)
                  have hrv2 : RdK KM wr w.heap.size A' ms := hrv
                  have HRV := Lib.hid (RdK.more hrv2 hB.size)
                  obtain ⟨m2, hm2⟩ : ∃ m, ms.length = m := ⟨_, rfl⟩
                  have HG : Hid (linkB 7 k ((nt.map Lp.dat).getD k []) = (decide (m2 ≤ 80) && (!(decide ((k : Int) / 7 = (k : Int) % 7) && decide (0 < m2)) && (ms.map Mp.dat).all msgD))) := by show _ = _; rw [hg]; unfold linkB Lp.dat; simp only [List.length_map, hm2]
                  rw [hm2] at hc0
                  have HM2 := Lib.hid hm2
                  clear hm2 hg hrv hrv2 hvl
                  obtain ⟨qd, hqd⟩ : ∃ q : Int, (k : Int) / 7 = q := ⟨_, rfl⟩
                  obtain ⟨qr, hqr⟩ : ∃ q : Int, (k : Int) % 7 = q := ⟨_, rfl⟩
                  rw [hqd, hqr] at HG
                  have b1 : 0 ≤ qd ∧ qd ≤ 49 := by omega
                  have b2 : 0 ≤ qr ∧ qr ≤ 49 := by omega
                  have t1 : (k : Int).tdiv 7 = qd := by rw [Int.tdiv_eq_ediv_of_nonneg (by omega)]; exact hqd
                  have t2 : (k : Int).tmod 7 = qr := by rw [Int.tmod_eq_emod_of_nonneg (by omega)]; exact hqr
                  have t3 : IntKind.i64.wrap qd = qd := IntWalk.i64_in _ (by omega)
                  have t4 : IntKind.i64.wrap qr = qr := IntWalk.i64_in _ (by omega)
                  clear hqd hqr b1 b2
                  have CA := fun x => lat_blk ka x
                  have C0 := fun x : Lat wr => x.cell hc0
                  have hbw : b_ < wr.heap.size := Nat.lt_of_lt_of_le hb hB.size
                  have HKA := Lib.hid ka; have HBB := Lib.hid hB; have HC0 := Lib.hid hc0; clear ka hB hc0
                  by_cases f1 : 80 < m2
                  · have i1 : decide ((80 : Int) < (m2 : Int)) = true := by simp; omega
                    have i1n : decide (80 < m2) = true := by simp; omega
                    have F1 := Lib.hid f1; clear f1
                    go_wp2
                    refine wp_region_lat (by kernel_rfl) (by kernel_rfl) ?_
                    repeat (go_big_quiet_step (fail))
                    refine wpQuiet_nil ?_
                    rintro w4 ⟨⟨_, hb4⟩, rfl⟩
                    have hB4 := HBB.out.trans (hb4.mono HBB.out.size); have ka4 := HKA.out.on hb4
                    have hc4 : w4.cell? ⟨b_, off + k, none⟩ = some (.slice A' m2 c') := (hb4.cell (p := ⟨b_, off + k, none⟩) hbw).trans HC0.out
                    have HR4 := Lib.hid (HRV.out.on hb4)
                    clear CA C0 ra HKA HBB HC0 HRV
                    clear hc4
                    go_wp2
                    go_ret
                    exact ⟨ret_bool (by rw [← HZ2.out, HR1.out, show netB 7 (nt.map Lp.dat) = false from range_no (k := k) (by rw [List.length_map, ELN.out]; exact hlt) (by rw [HG.out]; have := F1.out; simp; omega)]; rfl), hB4⟩
                  · have i1 : decide ((80 : Int) < (m2 : Int)) = false := by simp; omega
                    have i1n : decide (80 < m2) = false := by simp; omega
                    have F1 : Hid (m2 ≤ 80) := by show _ ≤ _; omega
                    have bm2 : m2 ≤ 80 := F1.out
                    clear f1
                    by_cases f2 : qd = qr
                    · have i2 : (qd == qr) = true := by simp [f2]
                      by_cases f3 : 0 < m2
                      · have i3 : decide ((0 : Int) < (m2 : Int)) = true := by simp; omega
                        have i3n : decide (0 < m2) = true := by simp; omega
                        have F2 := Lib.hid f2; have F3 := Lib.hid f3; clear f2
                        go_wp2
                        refine wp_region_lat (by kernel_rfl) (by kernel_rfl) ?_
                        repeat (go_big_quiet_step (fail))
                        refine wpQuiet_nil ?_
                        rintro w4 ⟨⟨_, hb4⟩, rfl⟩
                        have hB4 := HBB.out.trans (hb4.mono HBB.out.size); have ka4 := HKA.out.on hb4
                        have hc4 : w4.cell? ⟨b_, off + k, none⟩ = some (.slice A' m2 c') := (hb4.cell (p := ⟨b_, off + k, none⟩) hbw).trans HC0.out
                        have HR4 := Lib.hid (HRV.out.on hb4)
                        clear CA C0 ra HKA HBB HC0 HRV
                        clear hc4
                        go_wp2
                        go_ret
                        exact ⟨ret_bool (by rw [← HZ2.out, HR1.out, show netB 7 (nt.map Lp.dat) = false from range_no (k := k) (by rw [List.length_map, ELN.out]; exact hlt) (by rw [HG.out]; simp [F2.out, F3.out])]; rfl), hB4⟩
                      · obtain rfl : m2 = 0 := by omega
                        have F2 := Lib.hid f2; clear f2 f3
                        go_wp2
                        refine wp_region_lat (by kernel_rfl) (by kernel_rfl) ?_
                        repeat (go_big_quiet_step (fail))
                        refine wpQuiet_nil ?_
                        rintro w4 ⟨⟨_, hb4⟩, rfl⟩
                        have hB4 := HBB.out.trans (hb4.mono HBB.out.size); have ka4 := HKA.out.on hb4
                        have hc4 : w4.cell? ⟨b_, off + k, none⟩ = some (.slice A' 0 c') := (hb4.cell (p := ⟨b_, off + k, none⟩) hbw).trans HC0.out
                        have HR4 := Lib.hid (HRV.out.on hb4)
                        clear CA C0 ra HKA HBB HC0 HRV
                        have HK4 := Lib.hid ka4; have HB4 := Lib.hid hB4; clear ka4 hB4
                        have HC4 := Lib.hid hc4; clear hc4
                        have ra := HK4.out.rule
                        go_wp2
                        go_loopw [5] (fun i wr => ∃ (j : Nat), j ≤ 0 ∧ i = .int .i64 j ∧ Hid (∀ t, t < j → msgD (ms.getD t zM).dat = true) ∧ Below w4.heap.size w4 wr) (fun i _ => 0 - (intOf i).toNat)
                        case atStart => exact ⟨0, Nat.zero_le _, rfl, fun j hj => absurd hj (by omega), Below.refl _ _⟩
                        case round =>
                          clear ra
                          obtain ⟨j, hj, rfl, halj, hbj⟩ := hrel
                          have kaj := HK4.out.on hbj
                          have ra := kaj.rule
                          have hBj := on_ HB4.out hbj
                          have hc0 := (hbj.cell (p := ⟨b_, off + k, none⟩) (World.block_lt_of_cell? w4 _ HC4.out)).trans HC4.out
                          by_cases hjt : j < 0
                          · exact absurd hjt (by omega)
                          · have HAL : Hid ((ms.map Mp.dat).all msgD = true) := by show _ = _; exact all_of msgD (ms.map Mp.dat) zM.dat fun t ht => by rw [same_map]; exact halj.out t (by rw [List.length_map, HM2.out] at ht; omega)
                            go_wp2
                            go_roundw
                            case rel =>
                              refine ⟨k + 1, by omega, by go_num, fun j hj => ?_, kaj, hBj⟩
                              by_cases e : j = k
                              · rw [e, HG.out, HAL.out]; simp
                              · exact hall.out j (by omega)
                            case measure => simp [intOf]; omega
                    · have i2 : (qd == qr) = false := by simpa using f2
                      have F2 := Lib.hid f2; clear f2
                      go_wp2
                      refine wp_region_lat (by kernel_rfl) (by kernel_rfl) ?_
                      repeat (go_big_quiet_step (fail))
                      refine wpQuiet_nil ?_
                      rintro w4 ⟨⟨_, hb4⟩, rfl⟩
                      have hB4 := HBB.out.trans (hb4.mono HBB.out.size); have ka4 := HKA.out.on hb4
                      have hc4 : w4.cell? ⟨b_, off + k, none⟩ = some (.slice A' m2 c') := (hb4.cell (p := ⟨b_, off + k, none⟩) hbw).trans HC0.out
                      have HR4 := Lib.hid (HRV.out.on hb4)
                      clear CA C0 ra HKA HBB HC0 HRV
                      have HK4 := Lib.hid ka4; have HB4 := Lib.hid hB4; clear ka4 hB4
                      have HC4 := Lib.hid hc4; clear hc4
                      have ra := HK4.out.rule
                      go_wp2
                      go_loopw [5] (fun i wr => ∃ (j : Nat), j ≤ m2 ∧ i = .int .i64 j ∧ Hid (∀ t, t < j → msgD (ms.getD t zM).dat = true) ∧ Below w4.heap.size w4 wr) (fun i _ => m2 - (intOf i).toNat)
                      case atStart => exact ⟨0, Nat.zero_le _, rfl, fun j hj => absurd hj (by omega), Below.refl _ _⟩
                      case round =>
                        clear ra
                        obtain ⟨j, hj, rfl, halj, hbj⟩ := hrel
                        have kaj := HK4.out.on hbj
                        have ra := kaj.rule
                        have hBj := on_ HB4.out hbj
                        have hc0 := (hbj.cell (p := ⟨b_, off + k, none⟩) (World.block_lt_of_cell? w4 _ HC4.out)).trans HC4.out
                        by_cases hjt : j < m2
                        · obtain ⟨b2_, off2, rfl, hb2, hcs, hrv⟩ := RdK.at_ (HR4.out.below hbj) (k := j) (by rw [HM2.out]; omega)
                          have hvl := HVL.out.2 j (by rw [HM2.out]; omega)
                          change KM.rd _ w4.heap.size (ms.getD j zM) at hrv
                          have hcs2 := fun i h => hcs i h
                          change ∀ i, i < 6 → _ = (KM.cells (ms.getD j zM))[i]? at hcs2
                          obtain ⟨u, hu⟩ : ∃ u, ms.getD j zM = u := ⟨_, rfl⟩
                          rw [hu] at hcs2 hvl hrv
                          have HU := Lib.hid hu; clear hu
                          obtain ⟨g, hg⟩ : ∃ g, msgD u.dat = g := ⟨_, rfl⟩
                          have HGG := Lib.hid hg
                          have hcl := specMsgOk_is g u.k u.v u.x u.a u.b u.A u.c u.vs hg _ (Rd.more hrv hbj.size) hvl
                          have q0 : World.cell? _ ⟨b2_, off2 + j * 6, none⟩ = some (.int .i64 u.k) := hcs2 0 (by decide)
                          have q1 : World.cell? _ ⟨b2_, off2 + j * 6 + 1, none⟩ = some (.int .i64 u.v) := hcs2 1 (by decide)
                          have q2 : World.cell? _ ⟨b2_, off2 + j * 6 + 2, none⟩ = some (.int .i64 u.x) := hcs2 2 (by decide)
                          have q3 : World.cell? _ ⟨b2_, off2 + j * 6 + 3, none⟩ = some (.int .i64 u.a) := hcs2 3 (by decide)
                          have q4 : World.cell? _ ⟨b2_, off2 + j * 6 + 4, none⟩ = some (.int .i64 u.b) := hcs2 4 (by decide)
                          have q5 : World.cell? _ ⟨b2_, off2 + j * 6 + 5, none⟩ = some (.slice u.A u.vs.length u.c) := hcs2 5 (by decide)
                          clear hcs hcs2 hrv hvl hg
                          obtain ⟨mk, mv, mx, ma, mb, vs, A2, c2⟩ := u
                          simp only at q0 q1 q2 q3 q4 q5 hcl
                          obtain ⟨lq, hlq⟩ : ∃ l, vs.length = l := ⟨_, rfl⟩
                          rw [hlq] at hcl q5
                          have HCL := Lib.hid hcl; clear hcl hlq
                          have HBJ := Lib.hid hbj; have HBB := Lib.hid hBj; clear hbj hBj kaj
                          cases g
                          · go_wp2_with fail
                            refine HCL.out.mono ?_
                            rintro e w5 ⟨rfl, hb5⟩
                            have hB5 := on_ HBB.out hb5
                            clear hb5 ra hc0 q0 q1 q2 q3 q4 q5
                            go_wp2
                            go_ret
                            exact ⟨ret_bool (by rw [← HZ2.out, HR1.out, show netB 7 (nt.map Lp.dat) = false from range_no (k := k) (by rw [List.length_map, ELN.out]; exact hlt) (by rw [HG.out, all_take_no msgD (ms.map Mp.dat) zM.dat j (by rw [List.length_map, HM2.out]; exact hjt) (by rw [same_map, HU.out]; exact HGG.out)]; simp)]; rfl), hB5⟩
                          · go_wp2_with fail
                            refine HCL.out.mono ?_
                            rintro e w5 ⟨rfl, hb5⟩
                            have hbj5 := HBJ.out.trans (hb5.mono HBJ.out.size)
                            clear hb5 ra hc0 q0 q1 q2 q3 q4 q5
                            go_wp2
                            go_roundw
                            case rel =>
                              refine ⟨j + 1, by omega, by go_num, fun t ht => ?_, hbj5⟩
                              by_cases e : t = j
                              · rw [e, HU.out]; exact HGG.out
                              · exact halj.out t (by omega)
                            case measure => simp [intOf]; omega
                        · have HAL : Hid ((ms.map Mp.dat).all msgD = true) := by show _ = _; exact all_of msgD (ms.map Mp.dat) zM.dat fun t ht => by rw [same_map]; exact halj.out t (by rw [List.length_map, HM2.out] at ht; omega)
                          go_wp2
                          go_roundw
                          case rel =>
                            refine ⟨k + 1, by omega, by go_num, fun j hj => ?_, kaj, hBj⟩
                            by_cases e : j = k
                            · rw [e, HG.out, HAL.out]; have h1 := F1.out; have h2 := F2.out; simp [h1, h2]
                            · exact hall.out j (by omega)
                          case measure => simp [intOf]; omega
                · have HN1 : Hid (netB 7 (nt.map Lp.dat) = true) := by show _ = _; exact range_yes fun j hj => hall.out j (by rw [List.length_map, ELN.out] at hj; omega)
                  go_wp2
                  go_ret
                  exact ⟨ret_bool (by rw [← HZ2.out, HR1.out, HN1.out]; rfl), hB⟩
        · have e4 : decide ((2 : Int) < (m : Int)) = true := by simp; omega
          have e4n : decide (2 < m) = true := by simp; omega
          have D4 := Lib.hid d4; clear d4
          go_enter Tryz.func28, Tryz.ntmps28
          go_wp2
          refine wp_region_lat (by kernel_rfl) (by kernel_rfl) ?_
          repeat (go_big_quiet_step ((first | (go_at_call 49; exact lat_same _ (specSize_is 7 true HS.out _)) | (go_at_call 50; exact lat_call _ (HLI.out _ (HB.out _))))))
          refine wpQuiet_nil ?_
          rintro w3 ⟨⟨_, hb3⟩, rfl⟩
          have hB3 : Below w.heap.size w w3 := HB.out ⟨_, hb3⟩
          clear C0 ka
          go_wp2
          go_ret
          exact ⟨ret_bool (by rw [← HZ.out, show decide ((m : Int) ≤ 7 / 3) = false from by have := D4.out; simp; omega]; simp), hB3⟩
      · have e3 : ((ln : Int) != 49) = true := by simpa using d3
        have D3 := Lib.hid d3; clear d3
        go_enter Tryz.func28, Tryz.ntmps28
        go_wp2
        refine wp_region_lat (by kernel_rfl) (by kernel_rfl) ?_
        repeat (go_big_quiet_step ((first | (go_at_call 49; exact lat_same _ (specSize_is 7 true HS.out _)) | (go_at_call 50; exact lat_call _ (HLI.out _ (HB.out _))))))
        refine wpQuiet_nil ?_
        rintro w3 ⟨⟨_, hb3⟩, rfl⟩
        have hB3 : Below w.heap.size w w3 := HB.out ⟨_, hb3⟩
        clear C0 ka
        go_wp2
        go_ret
        exact ⟨ret_bool (by rw [← HZ.out]; simp [D3.out]), hB3⟩
    · have e2 : ((lr : Int) != 7) = true := by simpa using d2
      have D2 := Lib.hid d2; clear d2
      go_enter Tryz.func28, Tryz.ntmps28
      go_wp2
      refine wp_region_lat (by kernel_rfl) (by kernel_rfl) ?_
      repeat (go_big_quiet_step ((first | (go_at_call 49; exact lat_same _ (specSize_is 7 true HS.out _)) | (go_at_call 50; exact lat_call _ (HLI.out _ (HB.out _))))))
      refine wpQuiet_nil ?_
      rintro w3 ⟨⟨_, hb3⟩, rfl⟩
      have hB3 : Below w.heap.size w w3 := HB.out ⟨_, hb3⟩
      clear C0 ka
      go_wp2
      go_ret
      exact ⟨ret_bool (by rw [← HZ.out]; simp [D2.out]), hB3⟩
  · have e1 : ((lb : Int) != 7) = true := by simpa using d1
    have D1 := Lib.hid d1; clear d1
    go_enter Tryz.func28, Tryz.ntmps28
    go_wp2
    refine wp_region_lat (by kernel_rfl) (by kernel_rfl) ?_
    repeat (go_big_quiet_step ((first | (go_at_call 49; exact lat_same _ (specSize_is 7 true HS.out _)) | (go_at_call 50; exact lat_call _ (HLI.out _ (HB.out _))))))
    refine wpQuiet_nil ?_
    rintro w3 ⟨⟨_, hb3⟩, rfl⟩
    have hB3 : Below w.heap.size w w3 := HB.out ⟨_, hb3⟩
    clear C0 ka
    go_wp2
    go_ret
    exact ⟨ret_bool (by rw [← HZ.out]; simp [D1.out]), hB3⟩

theorem specClusterOk_is (z : Bool) (q : Cq) (hz : cluB q.dat = z) (w : World) (hr : RdC4 w w.heap.size q) (hf : FewC q) :
    Calls Tryz.prog 28 #[q.agg] w fun e w' => e = .returned (.bool z) ∧ Below w.heap.size w w' := by
  have hz' : (sizeB q.n && (flagsB q.n q.bad && (lensC q.dat && (repsB q.n (q.rs.map Rq.dat) && netB q.n (q.nt.map Lp.dat))))) = z := hz
  rcases hs : sizeB q.n with _ | _
  · have hzf : z = false := by rw [← hz', hs]; rfl
    subst hzf
    exact specClusterOk_no q hs w
  · rw [hs, Bool.true_and] at hz'
    rcases size_two hs with h4 | h7
    · exact specClusterOk_4 z q h4 (by rw [← hz', h4]) w hr hf
    · exact specClusterOk_7 z q h7 (by rw [← hz', h7]) w hr hf
end Go.Proofs.YtfdfjmibjnmhpaaGreat.V
