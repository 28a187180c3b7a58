/-
  ClusterOk of the program: contracts. netOk and ClusterOk of the program: contracts. netOk and ClusterOk of the program: contracts. No statement is proved here.
-/
import Derived.Test.YtfdfjmibjnmhpaaGreatK10
import Derived.Test.YtfdfjmibjnmhpaaGreatK08
import Derived.Deep.RegionWith
set_option linter.unusedVariables false
set_option maxRecDepth 100000
namespace Go.Proofs.YtfdfjmibjnmhpaaGreat.V
open Go.RowKit Go.Proofs.YtfdfjmibjnmhpaaGreat.B

theorem faults_three {n : Int} (h : sizeB n = true) : faultsR n = n / 3 := by
  rcases size_two h with rfl | rfl <;> decide
set_option maxHeartbeats 1600000 in
theorem flagsOk_is (z : Bool) (n : Int) (hs : sizeB n = true) (A : Option Addr) (c : Nat) (xs : List Bool) (hz : flagsB n xs = z) (w : World) (hr : RdK KB w w.heap.size A xs) (hn : xs.length ≤ 1048576) :
    Calls Tryz.prog 56 #[.int .i64 n, .slice A xs.length c] w fun e w' => e = .returned (.bool z) ∧ Below w.heap.size w w' := by
  have hz' : (decide ((xs.length : Int) = n) && decide ((liesN xs : Int) ≤ faultsR n)) = z := by rw [faults_three hs]; exact hz
  obtain ⟨l, hl⟩ : ∃ l, xs.length = l := ⟨_, rfl⟩
  rw [hl] at hz' hn ⊢
  have HZ := Lib.hid hz'; have HL := Lib.hid hl; have HS := Lib.hid hs; clear hz hz' hl hs
  by_cases h1 : (l : Int) = n
  · have hx : ((l : Int) != n) = false := by simp [h1]
    have HZ2 : Hid (decide ((liesN xs : Int) ≤ faultsR n) = z) := by show _ = _; rw [← HZ.out, h1]; simp
    have H1 := Lib.hid h1; clear h1 HZ
    go_enter Tryz.func56, Tryz.ntmps56
    go_wp2
    go_loopw [5, 14] (fun f i wr => ∃ (k : Nat) (m : Nat), k ≤ l ∧ i = .int .i64 k ∧ f = .int .i64 m ∧ m ≤ k ∧ Hid (m = liesN (xs.take k)) ∧ Below w.heap.size w wr) (fun _ i _ => l - (intOf i).toNat)
    case atStart => exact ⟨0, 0, Nat.zero_le _, rfl, rfl, Nat.le_refl _, by show _ = _; simp [liesN], Below.refl _ _⟩
    case round =>
      obtain ⟨k, m, hk, rfl, rfl, hm, hmm, hbel⟩ := hrel
      by_cases hlt : k < l
      · obtain ⟨b_, off, rfl, hb, hcs, hrv⟩ := RdK.at_ (hr.below hbel) (k := k) (by rw [HL.out]; omega)
        clear hr hrv
        change ∀ j, j < 1 → wr.cell? ⟨b_, off + k * 1 + j, none⟩ = (KB.cells (xs.getD k false))[j]? at hcs
        have hst := lies_step xs k (by rw [HL.out]; exact hlt)
        obtain ⟨u, hu⟩ : ∃ u, xs.getD k false = u := ⟨_, rfl⟩
        rw [hu] at hcs hst
        have hc0 : wr.cell? ⟨b_, off + k, none⟩ = some (.bool u) := by have := hcs 0 (by decide); simpa [KB] using this
        have HST := Lib.hid hst
        clear hcs hu hst
        rcases u with _ | _
        · go_wp2
          go_roundw
          case rel => exact ⟨k + 1, m, by omega, by go_num, rfl, by omega, by show _ = _; rw [HST.out, hmm.out]; rfl, hbel⟩
          case measure => simp [intOf]; omega
        · go_wp2
          go_roundw
          case rel => exact ⟨k + 1, m + 1, by omega, by go_num, by go_num, by omega, by show _ = _; rw [HST.out, hmm.out]; rfl, hbel⟩
          case measure => simp [intOf]; omega
      · have hkl : k = l := by omega
        subst hkl
        have HM : Hid (decide ((m : Int) ≤ faultsR n) = z) := by show _ = _; rw [← HZ2.out, hmm.out, List.take_of_length_le (by rw [HL.out]; omega)]
        obtain ⟨f, hf⟩ : ∃ f, faultsR n = f := ⟨_, rfl⟩
        have HF := Lib.hid (fun W => (implFaults_any n W)); rw [hf] at HM HF
        clear hf
        go_wp2_with fail
        refine (HF.out _).mono ?_
        rintro e w1 ⟨rfl, hq⟩
        obtain rfl := hq.symm
        go_wp2
        go_ret
        exact ⟨ret_bool HM.out, hbel⟩
  · have hx : ((l : Int) != n) = true := by simpa using h1
    have HZ2 : Hid (z = false) := by show _ = _; rw [← HZ.out]; simp [h1]
    clear h1
    go_enter Tryz.func56, Tryz.ntmps56
    go_wp2
    go_ret
    exact ⟨ret_bool HZ2.out.symm, Below.refl _ _⟩

set_option maxHeartbeats 3200000 in
theorem repsOk_is (z : Bool) (n : Int) (A : Option Addr) (c : Nat) (xs : List Rq) (hz : (decide ((xs.length : Int) = n) && repsB n (xs.map Rq.dat)) = z) (w : World) (hr : RdK KQ w w.heap.size A xs) (hf : xs.length ≤ 1048576 ∧ ∀ i, i < xs.length → FewQ (xs.getD i zQ)) :
    Calls Tryz.prog 57 #[.int .i64 n, .slice A xs.length c] w fun e w' => e = .returned (.bool z) ∧ Below w.heap.size w w' := by
  obtain ⟨hn, hv⟩ := hf
  obtain ⟨l, hl⟩ : ∃ l, xs.length = l := ⟨_, rfl⟩
  rw [hl] at hz hn hv ⊢
  have HZ := Lib.hid hz; have HL := Lib.hid hl; have HV := Lib.hid hv; clear hz hl hv
  by_cases h1 : (l : Int) = n
  · have hx : ((l : Int) != n) = false := by simp [h1]
    have HZ2 : Hid (repsB n (xs.map Rq.dat) = z) := by show _ = _; rw [← HZ.out, h1]; simp
    have H1 := Lib.hid h1; clear h1 HZ
    go_enter Tryz.func57, Tryz.ntmps57
    go_wp2
    go_loopw [13] (fun i wr => ∃ (k : Nat), k ≤ l ∧ i = .int .i64 k ∧ Hid (∀ j, j < k → goodP n (xs.map Rq.dat) j = true) ∧ Below w.heap.size w wr) (fun i _ => l - (intOf i).toNat)
    case atStart => exact ⟨0, Nat.zero_le _, rfl, fun j hj => absurd hj (by omega), Below.refl _ _⟩
    case round =>
      obtain ⟨k, hk, rfl, hall, hbel⟩ := hrel
      by_cases hlt : k < l
      · obtain ⟨b_, off, rfl, hb, hcs, hrv⟩ := RdK.at_ (hr.below hbel) (k := k) (by rw [HL.out]; omega)
        clear hr
        have hvl := HV.out k hlt
        change ∀ j, j < 14 → wr.cell? ⟨b_, off + k * 14 + j, none⟩ = (KQ.cells (xs.getD k zQ))[j]? at hcs
        change KQ.rd wr w.heap.size (xs.getD k zQ) at hrv
        have HG : Hid (goodP n (xs.map Rq.dat) k = (repQ (xs.getD k zQ).dat && (decide ((xs.getD k zQ).n = n) && decide ((xs.getD k zQ).id = (k : Int))))) := by show _ = _; unfold goodP; rw [dat_at]; rfl
        obtain ⟨u, hu⟩ : ∃ u, xs.getD k zQ = u := ⟨_, rfl⟩
        rw [hu] at hcs hvl hrv HG
        clear hu
        obtain ⟨g, hg⟩ : ∃ g, repQ u.dat = g := ⟨_, rfl⟩
        rw [hg] at HG
        have HCL := Lib.hid (fun (W : World) (h : Below w.heap.size w W) (h2 : Below wr.heap.size wr W) => implRepOk_is g u hg W ((RdQ.below (RdQ.more hrv hbel.size) h2).more h2.size) hvl)
        clear hrv hvl hg
        obtain ⟨qn, qid, qown, qview, qleft, qvoted, qlv, qlx, qdn, qpr, qvo, qre, qds, qhs, qAv, qAp, qAo, qAr, qAd, qAh, qcv, qcp, qco, qcr, qcd, qch⟩ := u
        simp only [Rq.agg, Rq.cells] at HCL
        simp only at HG
        have hc0 : wr.cell? ⟨b_, off + k * 14, none⟩ = some (.int .i64 qn) := hcs 0 (by decide)
        have hc1 : wr.cell? ⟨b_, off + k * 14 + 1, none⟩ = some (.int .i64 qid) := hcs 1 (by decide)
        have hc2 : wr.cell? ⟨b_, off + k * 14 + 2, none⟩ = some (.int .i64 qown) := hcs 2 (by decide)
        have hc3 : wr.cell? ⟨b_, off + k * 14 + 3, none⟩ = some (.int .i64 qview) := hcs 3 (by decide)
        have hc4 : wr.cell? ⟨b_, off + k * 14 + 4, none⟩ = some (.int .i64 qleft) := hcs 4 (by decide)
        have hc5 : wr.cell? ⟨b_, off + k * 14 + 5, none⟩ = some (.slice qAv qvoted.length qcv) := hcs 5 (by decide)
        have hc6 : wr.cell? ⟨b_, off + k * 14 + 6, none⟩ = some (.int .i64 qlv) := hcs 6 (by decide)
        have hc7 : wr.cell? ⟨b_, off + k * 14 + 7, none⟩ = some (.int .i64 qlx) := hcs 7 (by decide)
        have hc8 : wr.cell? ⟨b_, off + k * 14 + 8, none⟩ = some (.int .i64 qdn) := hcs 8 (by decide)
        have hc9 : wr.cell? ⟨b_, off + k * 14 + 9, none⟩ = some (.slice qAp qpr.length qcp) := hcs 9 (by decide)
        have hc10 : wr.cell? ⟨b_, off + k * 14 + 10, none⟩ = some (.slice qAo qvo.length qco) := hcs 10 (by decide)
        have hc11 : wr.cell? ⟨b_, off + k * 14 + 11, none⟩ = some (.slice qAr qre.length qcr) := hcs 11 (by decide)
        have hc12 : wr.cell? ⟨b_, off + k * 14 + 12, none⟩ = some (.slice qAd qds.length qcd) := hcs 12 (by decide)
        have hc13 : wr.cell? ⟨b_, off + k * 14 + 13, none⟩ = some (.slice qAh qhs.length qch) := hcs 13 (by decide)
        clear hcs
        obtain ⟨lv0, elv0⟩ : ∃ m, qvoted.length = m := ⟨_, rfl⟩
        obtain ⟨lp0, elp0⟩ : ∃ m, qpr.length = m := ⟨_, rfl⟩
        obtain ⟨lo0, elo0⟩ : ∃ m, qvo.length = m := ⟨_, rfl⟩
        obtain ⟨lr0, elr0⟩ : ∃ m, qre.length = m := ⟨_, rfl⟩
        obtain ⟨ld0, eld0⟩ : ∃ m, qds.length = m := ⟨_, rfl⟩
        obtain ⟨lh0, elh0⟩ : ∃ m, qhs.length = m := ⟨_, rfl⟩
        simp only [elv0, elp0, elo0, elr0, eld0, elh0] at HCL hc5 hc9 hc10 hc11 hc12 hc13
        clear elv0 elp0 elo0 elr0 eld0 elh0
        have kx := Blk.new wr 75 #[.int .i64 qn, .int .i64 qid, .int .i64 qown, .int .i64 qview, .int .i64 qleft, .slice qAv lv0 qcv, .int .i64 qlv, .int .i64 qlx, .int .i64 qdn, .slice qAp lp0 qcp, .slice qAo lo0 qco, .slice qAr lr0 qcr, .slice qAd ld0 qcd, .slice qAh lh0 qch]
        have hB1 : Below w.heap.size w (wr.alloc (.cells #[.int .i64 qn, .int .i64 qid, .int .i64 qown, .int .i64 qview, .int .i64 qleft, .slice qAv lv0 qcv, .int .i64 qlv, .int .i64 qlx, .int .i64 qdn, .slice qAp lp0 qcp, .slice qAo lo0 qco, .slice qAr lr0 qcr, .slice qAd ld0 qcd, .slice qAh lh0 qch] 75)) := hbel.alloc hbel.size _
        have hW1 : Below wr.heap.size wr (wr.alloc (.cells #[.int .i64 qn, .int .i64 qid, .int .i64 qown, .int .i64 qview, .int .i64 qleft, .slice qAv lv0 qcv, .int .i64 qlv, .int .i64 qlx, .int .i64 qdn, .slice qAp lp0 qcp, .slice qAo lo0 qco, .slice qAr lr0 qcr, .slice qAd ld0 qcd, .slice qAh lh0 qch] 75)) := (Below.refl _ _).alloc (Nat.le_refl _) _
        have rx := kx.rule
        have HB1 := Lib.hid hB1; have HW1 := Lib.hid hW1; clear hB1 hW1
        by_cases d1 : qn = n
        · have e1 : (qn != n) = false := by simp [d1]
          have D1 := Lib.hid d1; clear d1
          by_cases d2 : qid = (k : Int)
          · have e2 : (qid != (k : Int)) = false := by simp [d2]
            have D2 := Lib.hid d2; clear d2
            go_wp2_with fail
            refine (HCL.out _ HB1.out HW1.out).mono ?_
            rintro e w1 ⟨rfl, hb1⟩
            have hB2 := on_ HB1.out hb1
            clear hb1 rx kx
            rcases g with _ | _
            · go_wp2
              go_ret
              exact ⟨ret_bool (by rw [← HZ2.out]; exact (range_no (k := k) (by rw [List.length_map, HL.out]; exact hlt) (by rw [HG.out]; rfl)).symm), hB2⟩
            · go_wp2
              go_roundw
              case rel =>
                refine ⟨k + 1, by omega, by go_num, fun j hj => ?_, hB2⟩
                by_cases e : j = k
                · rw [e, HG.out]; simp [D1.out, D2.out]
                · exact hall.out j (by omega)
              case measure => simp [intOf]; omega
          · have e2 : (qid != (k : Int)) = true := by simpa using d2
            have D2 := Lib.hid d2; clear d2
            go_wp2
            go_ret
            exact ⟨ret_bool (by rw [← HZ2.out]; exact (range_no (k := k) (by rw [List.length_map, HL.out]; exact hlt) (by rw [HG.out]; simp [D2.out])).symm), HB1.out⟩
        · have e1 : (qn != n) = true := by simpa using d1
          have D1 := Lib.hid d1; clear d1
          go_wp2
          go_ret
          exact ⟨ret_bool (by rw [← HZ2.out]; exact (range_no (k := k) (by rw [List.length_map, HL.out]; exact hlt) (by rw [HG.out]; simp [D1.out])).symm), HB1.out⟩
      · go_wp2
        go_ret
        exact ⟨ret_bool (by rw [← HZ2.out]; exact (range_yes fun j hj => hall.out j (by rw [List.length_map, HL.out] at hj; omega)).symm), hbel⟩
  · have hx : ((l : Int) != n) = true := by simpa using h1
    have HZ2 : Hid (z = false) := by show _ = _; rw [← HZ.out]; simp [h1]
    clear h1
    go_enter Tryz.func57, Tryz.ntmps57
    go_wp2
    go_ret
    exact ⟨ret_bool HZ2.out.symm, Below.refl _ _⟩
end Go.Proofs.YtfdfjmibjnmhpaaGreat.V

namespace Go.Proofs.YtfdfjmibjnmhpaaGreat.V
open Go.RowKit Go.Proofs.YtfdfjmibjnmhpaaGreat.B

def badM (m : Mp) : Bool := !(msgD m.dat)
theorem any_bad (l : List Mp) : l.any badM = !((l.map Mp.dat).all msgD) := by
  induction l with
  | nil => rfl
  | cons a l ih => simp only [List.any_cons, List.map_cons, List.all_cons, ih, badM]; cases msgD a.dat <;> simp
theorem take_anyM (p : Mp → Bool) (l : List Mp) (j : Nat) (h : j < l.length) : (l.take (j + 1)).any p = ((l.take j).any p || p (l.getD j zM)) := by
  rw [take_getD l zM j h, List.any_append]
  simp
theorem clo_msg (z : Bool) (m : Mp) (hz : badM m = z) (w : World) (hr : KM.rd w w.heap.size m) (hf : FewM m) :
    Calls Tryz.prog 83 #[.agg m.cells] w fun e w' => e = .returned (.bool z) ∧ Below w.heap.size w w' := by
  obtain ⟨q, hq⟩ : ∃ q, msgD m.dat = q := ⟨_, rfl⟩
  have hz' : z = !q := by rw [← hz, ← hq]; rfl
  have HCL := Lib.hid (fun (W : World) (h : Below w.heap.size w W) => implMsgOk_is q m.k m.v m.x m.a m.b m.A m.c m.vs hq W ((Rd.below hr h).more h.size) hf)
  clear hz hq hr hf
  obtain ⟨mk, mv, mx, ma, mb, vs, A', c'⟩ := m
  simp only [Mp.cells] at *
  obtain ⟨l, hl⟩ : ∃ l, vs.length = l := ⟨_, rfl⟩
  simp only [hl] at HCL ⊢
  clear hl
  have hB := up_ (Below.refl w.heap.size w) (.cells #[.int .i64 mk, .int .i64 mv, .int .i64 mx, .int .i64 ma, .int .i64 mb, .slice A' l c'] 64)
  have HZ := Lib.hid hz'; clear hz'
  have ka := Blk.new w 64 #[.int .i64 mk, .int .i64 mv, .int .i64 mx, .int .i64 ma, .int .i64 mb, .slice A' l c']
  have ra := ka.rule
  go_enter Tryz.func83, Tryz.ntmps83
  go_wp2_with fail
  refine (HCL.out _ hB).mono ?_
  rintro e w1 ⟨rfl, hb⟩
  have hB1 := on_ hB hb
  clear ra ka hB hb
  go_wp2
  go_ret
  exact ⟨ret_bool (by rw [HZ.out]), hB1⟩

def IdxM (z : Bool) (w : World) (e : Ending) (w' : World) : Prop := (∃ y : Int, -1 ≤ y ∧ y ≤ 1048576 ∧ decide (0 ≤ y) = z ∧ e = Ending.returned (.int .i64 y)) ∧ Below w.heap.size w w'
set_option maxHeartbeats 1600000 in
theorem index_msg (A : Option Addr) (c : Nat) (xs : List Mp) (w : World) (hr : RdK KM w w.heap.size A xs) (hf : xs.length ≤ 1048576 ∧ ∀ i, i < xs.length → FewM (xs.getD i zM)) :
    Calls Tryz.prog 102 #[.slice A xs.length c, .func (.func 83) #[] #[]] w (IdxM (xs.any badM) w) := by
  obtain ⟨hn, hv⟩ := hf
  obtain ⟨z, hz⟩ : ∃ z, xs.any badM = z := ⟨_, rfl⟩
  rw [hz]
  have HZ := Lib.hid hz; clear hz
  obtain ⟨l, hl⟩ : ∃ l, xs.length = l := ⟨_, rfl⟩
  rw [hl] at hn hv ⊢
  have HL := Lib.hid hl; have HV := Lib.hid hv; clear hl hv
  have HA := Lib.hid (fun j h => take_anyM badM xs j h)
  go_enter Tryz.func102, Tryz.ntmps102
  go_wp2
  go_loopw [8] (fun i wr => ∃ (k : Nat), k ≤ l ∧ i = .int .i64 k ∧ Hid ((xs.take k).any badM = false) ∧ Below w.heap.size w wr) (fun i _ => l - (intOf i).toNat)
  case atStart => exact ⟨0, Nat.zero_le _, rfl, by show _ = _; simp, Below.refl _ _⟩
  case round =>
    obtain ⟨k, hk, rfl, hy, hbel⟩ := hrel
    by_cases hlt : k < l
    · obtain ⟨b_, off, rfl, hb, hcs, hrv⟩ := RdK.at_ (hr.below hbel) (k := k) (by rw [HL.out]; omega)
      clear hr
      have hvl := HV.out k hlt
      have hsa := HA.out k (by rw [HL.out]; exact hlt)
      rw [hy.out] at hsa
      change ∀ j, j < 6 → wr.cell? ⟨b_, off + k * 6 + j, none⟩ = (KM.cells (xs.getD k zM))[j]? at hcs
      change KM.rd wr w.heap.size (xs.getD k zM) at hrv
      obtain ⟨u, hu⟩ : ∃ u, xs.getD k zM = u := ⟨_, rfl⟩
      rw [hu] at hcs hvl hrv hsa
      clear hu
      obtain ⟨q, hq⟩ : ∃ q, badM u = q := ⟨_, rfl⟩
      rw [hq] at hsa
      simp only [Bool.false_or] at hsa
      have HCL := Lib.hid (clo_msg q u hq wr (KM.more hrv hbel.size) hvl)
      clear hrv hvl hq hy
      obtain ⟨mk, mv, mx, ma, mb, vs, A', c'⟩ := u
      simp only [Mp.cells] at HCL
      have hc0 : wr.cell? ⟨b_, off + k * 6, none⟩ = some (.int .i64 mk) := hcs 0 (by decide)
      have hc1 : wr.cell? ⟨b_, off + k * 6 + 1, none⟩ = some (.int .i64 mv) := hcs 1 (by decide)
      have hc2 : wr.cell? ⟨b_, off + k * 6 + 2, none⟩ = some (.int .i64 mx) := hcs 2 (by decide)
      have hc3 : wr.cell? ⟨b_, off + k * 6 + 3, none⟩ = some (.int .i64 ma) := hcs 3 (by decide)
      have hc4 : wr.cell? ⟨b_, off + k * 6 + 4, none⟩ = some (.int .i64 mb) := hcs 4 (by decide)
      have hc5 : wr.cell? ⟨b_, off + k * 6 + 5, none⟩ = some (.slice A' vs.length c') := hcs 5 (by decide)
      clear hcs
      obtain ⟨lq, hlq⟩ : ∃ l, vs.length = l := ⟨_, rfl⟩
      simp only [hlq] at HCL hc5
      clear hlq
      have HSA := Lib.hid hsa; clear hsa
      cases q
      · go_wp2_with fail
        refine HCL.out.mono ?_
        rintro e w1 ⟨rfl, hb1⟩
        go_wp2
        go_roundw
        case rel => exact ⟨k + 1, by omega, by go_num, HSA, hbel.trans (hb1.mono hbel.size)⟩
        case measure => simp [intOf]; omega
      · have HT : Hid (z = true) := by
          show _ = _
          rw [← HZ.out, List.any_eq_true]
          have := HSA.out
          rw [List.any_eq_true] at this
          obtain ⟨x, hx, hp⟩ := this
          exact ⟨x, List.mem_of_mem_take hx, hp⟩
        go_wp2_with fail
        refine HCL.out.mono ?_
        rintro e w1 ⟨rfl, hb1⟩
        go_wp2
        go_ret
        exact ⟨⟨_, by omega, by omega, by rw [HT.out]; simp, rfl⟩, hbel.trans (hb1.mono hbel.size)⟩
    · have hjl : k = l := by omega
      subst hjl
      have HT : Hid (z = false) := by
        show _ = _
        rw [← HZ.out, ← hy.out, List.take_of_length_le (by rw [HL.out]; omega)]
      go_wp2
      go_ret
      exact ⟨⟨-1, by omega, by omega, by rw [HT.out]; rfl, rfl⟩, hbel⟩
theorem contains_msg (z : Bool) (A : Option Addr) (c : Nat) (xs : List Mp) (hz : xs.any badM = z) (w : World) (hr : RdK KM w w.heap.size A xs) (hf : xs.length ≤ 1048576 ∧ ∀ i, i < xs.length → FewM (xs.getD i zM)) :
    Calls Tryz.prog 82 #[.slice A xs.length c, .func (.func 83) #[] #[]] w fun e w' => e = .returned (.bool z) ∧ Below w.heap.size w w' := by
  have HI := Lib.hid (index_msg A c xs w hr hf)
  rw [hz] at HI
  clear hr hf hz
  go_enter Tryz.func82, Tryz.ntmps82
  go_wp2_with fail
  refine HI.out.mono ?_
  rintro e w1 ⟨⟨y, hy1, hy2, hyz, rfl⟩, hb1⟩
  have HYZ := Lib.hid hyz; clear hyz
  go_wp2
  go_ret
  exact ⟨ret_bool HYZ.out, hb1⟩
end Go.Proofs.YtfdfjmibjnmhpaaGreat.V

namespace Go.Proofs.YtfdfjmibjnmhpaaGreat.V
open Go.RowKit Go.Proofs.YtfdfjmibjnmhpaaGreat.B

set_option maxHeartbeats 3200000 in
theorem netOk_4 (z : Bool) (A : Option Addr) (c : Nat) (xs : List Lp) (hz : (decide ((xs.length : Int) = 16) && netB 4 (xs.map Lp.dat)) = z) (w : World) (hr : RdK KL w w.heap.size A xs) (hf : xs.length ≤ 1048576 ∧ ∀ i, i < xs.length → FewL (xs.getD i zL)) :
    Calls Tryz.prog 58 #[.int .i64 4, .slice A xs.length c] w fun e w' => e = .returned (.bool z) ∧ Below w.heap.size w w' := by
  obtain ⟨hn, hv⟩ := hf
  obtain ⟨l, hl⟩ : ∃ l, xs.length = l := ⟨_, rfl⟩
  rw [hl] at hz hn hv ⊢
  have HZ := Lib.hid hz; have HL := Lib.hid hl; have HV := Lib.hid hv; clear hz hl hv
  by_cases h1 : (l : Int) = 16
  · have hx : ((l : Int) != 16) = false := by simp [h1]
    have HZ2 : Hid (netB 4 (xs.map Lp.dat) = z) := by show _ = _; rw [← HZ.out, h1]; simp
    have hl49 : l ≤ 16 := by omega
    have H1 := Lib.hid h1; clear h1 HZ
    go_enter Tryz.func58, Tryz.ntmps58
    go_wp2
    go_loopw [15] (fun i wr => ∃ (k : Nat), k ≤ l ∧ i = .int .i64 k ∧ Hid (∀ j, j < k → linkB 4 j ((xs.map Lp.dat).getD j []) = true) ∧ Below w.heap.size w wr) (fun i _ => l - (intOf i).toNat)
    case atStart => exact ⟨0, Nat.zero_le _, rfl, fun j hj => absurd hj (by omega), Below.refl _ _⟩
    case round =>
      obtain ⟨k, hk, rfl, hall, hbel⟩ := hrel
      by_cases hlt : k < l
      · obtain ⟨b_, off, rfl, hb, hcs, hrv⟩ := RdK.at_ (hr.below hbel) (k := k) (by rw [HL.out]; omega)
        clear hr
        have hvl := HV.out k hlt
        change ∀ j, j < 1 → wr.cell? ⟨b_, off + k * 1 + j, none⟩ = (KL.cells (xs.getD k zL))[j]? at hcs
        change KL.rd wr w.heap.size (xs.getD k zL) at hrv
        have hg : linkB 4 k ((xs.map Lp.dat).getD k []) = linkB 4 k (xs.getD k zL).dat := by rw [ldat_at]
        obtain ⟨⟨ms, A', c'⟩, hu⟩ : ∃ u, xs.getD k zL = u := ⟨_, rfl⟩
        rw [hu] at hcs hvl hrv hg
        clear hu
        have hc0 : wr.cell? ⟨b_, off + k, none⟩ = some (.slice A' ms.length c') := by have := hcs 0 (by decide); simpa [KL] using this
        clear hcs
        obtain ⟨g, hgg⟩ : ∃ g, ms.any badM = g := ⟨_, rfl⟩
        have hall' : (ms.map Mp.dat).all msgD = !g := by rw [← hgg, any_bad, Bool.not_not]
        have HCL := Lib.hid (fun (W : World) (h : Below w.heap.size w W) (h2 : Below wr.heap.size wr W) => contains_msg g A' c' ms hgg W ((RdK.below (RdK.more hrv hbel.size) h2).more h2.size) hvl)
        obtain ⟨m, hm⟩ : ∃ m, ms.length = m := ⟨_, rfl⟩
        have HG : Hid (linkB 4 k ((xs.map Lp.dat).getD k []) = (decide (m ≤ 80) && (!(decide ((k : Int) / 4 = (k : Int) % 4) && decide (0 < m)) && !g))) := by show _ = _; rw [hg, ← hall']; unfold linkB Lp.dat; simp only [List.length_map, hm]
        rw [hm] at HCL hc0
        clear hm hg hgg hall' hrv hvl
        obtain ⟨qd, hqd⟩ : ∃ q : Int, (k : Int) / 4 = q := ⟨_, rfl⟩
        obtain ⟨qr, hqr⟩ : ∃ q : Int, (k : Int) % 4 = q := ⟨_, rfl⟩
        rw [hqd, hqr] at HG
        have b1 : 0 ≤ qd ∧ qd ≤ 49 := by omega
        have b2 : 0 ≤ qr ∧ qr ≤ 49 := by omega
        have t1 : (k : Int).tdiv 4 = qd := by rw [Int.tdiv_eq_ediv_of_nonneg (by omega)]; exact hqd
        have t2 : (k : Int).tmod 4 = qr := by rw [Int.tmod_eq_emod_of_nonneg (by omega)]; exact hqr
        have t3 : IntKind.i64.wrap qd = qd := IntWalk.i64_in _ (by omega)
        have t4 : IntKind.i64.wrap qr = qr := IntWalk.i64_in _ (by omega)
        clear hqd hqr
        have C0 := fun x : Lat wr => x.cell hc0
        by_cases d1 : 80 < m
        · have e1 : decide ((80 : Int) < (m : Int)) = true := by simp; omega
          have e1n : decide (80 < m) = true := by simp; omega
          have D1 := Lib.hid d1; clear d1
          go_wp2
          refine wp_region_lat (by kernel_rfl) (by kernel_rfl) ?_
          repeat (go_big_quiet_step (fail))
          refine wpQuiet_nil ?_
          rintro w3 ⟨⟨_, hb3⟩, rfl⟩
          have hB3 := hbel.trans (hb3.mono hbel.size)
          go_wp2
          go_ret
          exact ⟨ret_bool (by rw [← HZ2.out]; exact (range_no (k := k) (by rw [List.length_map, HL.out]; exact hlt) (by rw [HG.out]; have := D1.out; simp; omega)).symm), hB3⟩
        · have e1 : decide ((80 : Int) < (m : Int)) = false := by simp; omega
          have e1n : decide (80 < m) = false := by simp; omega
          have D1 : Hid (m ≤ 80) := by show _ ≤ _; omega
          clear d1
          by_cases d2 : qd = qr
          · have e2 : (qd == qr) = true := by simp [d2]
            by_cases d3 : 0 < m
            · have e3 : decide ((0 : Int) < (m : Int)) = true := by simp; omega
              have e3n : decide (0 < m) = true := by simp; omega
              have D2 := Lib.hid d2; have D3 := Lib.hid d3; clear d2
              go_wp2
              refine wp_region_lat (by kernel_rfl) (by kernel_rfl) ?_
              repeat (go_big_quiet_step (fail))
              refine wpQuiet_nil ?_
              rintro w3 ⟨⟨_, hb3⟩, rfl⟩
              have hB3 := hbel.trans (hb3.mono hbel.size)
              go_wp2
              go_ret
              exact ⟨ret_bool (by rw [← HZ2.out]; exact (range_no (k := k) (by rw [List.length_map, HL.out]; exact hlt) (by rw [HG.out]; simp [D2.out, D3.out])).symm), hB3⟩
            · obtain rfl : m = 0 := by omega
              have D2 := Lib.hid d2; clear d2 d3
              go_wp2
              refine wp_region_lat (by kernel_rfl) (by kernel_rfl) ?_
              repeat (go_big_quiet_step (fail))
              refine wpQuiet_nil ?_
              rintro w3 ⟨⟨_, hb3⟩, rfl⟩
              have hB3 := hbel.trans (hb3.mono hbel.size)
              have HB3 := Lib.hid hb3; clear hb3 C0
              go_wp2_with fail
              refine (HCL.out _ hB3 HB3.out).mono ?_
              rintro e w4 ⟨rfl, hb4⟩
              have hB4 := on_ hB3 hb4
              clear hb4
              rcases g with _ | _
              · go_wp2
                go_roundw
                case rel =>
                  refine ⟨k + 1, by omega, by go_num, fun j hj => ?_, hB4⟩
                  by_cases e : j = k
                  · rw [e, HG.out]; have := D1.out; have := D2.out; simp_all
                  · exact hall.out j (by omega)
                case measure => simp [intOf]; omega
              · go_wp2
                go_ret
                exact ⟨ret_bool (by rw [← HZ2.out]; exact (range_no (k := k) (by rw [List.length_map, HL.out]; exact hlt) (by rw [HG.out]; simp)).symm), hB4⟩
          · have e2 : (qd == qr) = false := by simpa using d2
            have D2 := Lib.hid d2; clear d2
            go_wp2
            refine wp_region_lat (by kernel_rfl) (by kernel_rfl) ?_
            repeat (go_big_quiet_step (fail))
            refine wpQuiet_nil ?_
            rintro w3 ⟨⟨_, hb3⟩, rfl⟩
            have hB3 := hbel.trans (hb3.mono hbel.size)
            have HB3 := Lib.hid hb3; clear hb3 C0
            go_wp2_with fail
            refine (HCL.out _ hB3 HB3.out).mono ?_
            rintro e w4 ⟨rfl, hb4⟩
            have hB4 := on_ hB3 hb4
            clear hb4
            rcases g with _ | _
            · go_wp2
              go_roundw
              case rel =>
                refine ⟨k + 1, by omega, by go_num, fun j hj => ?_, hB4⟩
                by_cases e : j = k
                · rw [e, HG.out]; have := D1.out; have := D2.out; simp_all
                · exact hall.out j (by omega)
              case measure => simp [intOf]; omega
            · go_wp2
              go_ret
              exact ⟨ret_bool (by rw [← HZ2.out]; exact (range_no (k := k) (by rw [List.length_map, HL.out]; exact hlt) (by rw [HG.out]; simp)).symm), hB4⟩
      · go_wp2
        go_ret
        exact ⟨ret_bool (by rw [← HZ2.out]; exact (range_yes fun j hj => hall.out j (by rw [List.length_map, HL.out] at hj; omega)).symm), hbel⟩
  · have hx : ((l : Int) != 16) = true := by simpa using h1
    have HZ2 : Hid (z = false) := by show _ = _; rw [← HZ.out]; simp [h1]
    clear h1
    go_enter Tryz.func58, Tryz.ntmps58
    go_wp2
    go_ret
    exact ⟨ret_bool HZ2.out.symm, Below.refl _ _⟩

set_option maxHeartbeats 3200000 in
theorem netOk_7 (z : Bool) (A : Option Addr) (c : Nat) (xs : List Lp) (hz : (decide ((xs.length : Int) = 49) && netB 7 (xs.map Lp.dat)) = z) (w : World) (hr : RdK KL w w.heap.size A xs) (hf : xs.length ≤ 1048576 ∧ ∀ i, i < xs.length → FewL (xs.getD i zL)) :
    Calls Tryz.prog 58 #[.int .i64 7, .slice A xs.length c] w fun e w' => e = .returned (.bool z) ∧ Below w.heap.size w w' := by
  obtain ⟨hn, hv⟩ := hf
  obtain ⟨l, hl⟩ : ∃ l, xs.length = l := ⟨_, rfl⟩
  rw [hl] at hz hn hv ⊢
  have HZ := Lib.hid hz; have HL := Lib.hid hl; have HV := Lib.hid hv; clear hz hl hv
  by_cases h1 : (l : Int) = 49
  · have hx : ((l : Int) != 49) = false := by simp [h1]
    have HZ2 : Hid (netB 7 (xs.map Lp.dat) = z) := by show _ = _; rw [← HZ.out, h1]; simp
    have hl49 : l ≤ 49 := by omega
    have H1 := Lib.hid h1; clear h1 HZ
    go_enter Tryz.func58, Tryz.ntmps58
    go_wp2
    go_loopw [15] (fun i wr => ∃ (k : Nat), k ≤ l ∧ i = .int .i64 k ∧ Hid (∀ j, j < k → linkB 7 j ((xs.map Lp.dat).getD j []) = true) ∧ Below w.heap.size w wr) (fun i _ => l - (intOf i).toNat)
    case atStart => exact ⟨0, Nat.zero_le _, rfl, fun j hj => absurd hj (by omega), Below.refl _ _⟩
    case round =>
      obtain ⟨k, hk, rfl, hall, hbel⟩ := hrel
      by_cases hlt : k < l
      · obtain ⟨b_, off, rfl, hb, hcs, hrv⟩ := RdK.at_ (hr.below hbel) (k := k) (by rw [HL.out]; omega)
        clear hr
        have hvl := HV.out k hlt
        change ∀ j, j < 1 → wr.cell? ⟨b_, off + k * 1 + j, none⟩ = (KL.cells (xs.getD k zL))[j]? at hcs
        change KL.rd wr w.heap.size (xs.getD k zL) at hrv
        have hg : linkB 7 k ((xs.map Lp.dat).getD k []) = linkB 7 k (xs.getD k zL).dat := by rw [ldat_at]
        obtain ⟨⟨ms, A', c'⟩, hu⟩ : ∃ u, xs.getD k zL = u := ⟨_, rfl⟩
        rw [hu] at hcs hvl hrv hg
        clear hu
        have hc0 : wr.cell? ⟨b_, off + k, none⟩ = some (.slice A' ms.length c') := by have := hcs 0 (by decide); simpa [KL] using this
        clear hcs
        obtain ⟨g, hgg⟩ : ∃ g, ms.any badM = g := ⟨_, rfl⟩
        have hall' : (ms.map Mp.dat).all msgD = !g := by rw [← hgg, any_bad, Bool.not_not]
        have HCL := Lib.hid (fun (W : World) (h : Below w.heap.size w W) (h2 : Below wr.heap.size wr W) => contains_msg g A' c' ms hgg W ((RdK.below (RdK.more hrv hbel.size) h2).more h2.size) hvl)
        obtain ⟨m, hm⟩ : ∃ m, ms.length = m := ⟨_, rfl⟩
        have HG : Hid (linkB 7 k ((xs.map Lp.dat).getD k []) = (decide (m ≤ 80) && (!(decide ((k : Int) / 7 = (k : Int) % 7) && decide (0 < m)) && !g))) := by show _ = _; rw [hg, ← hall']; unfold linkB Lp.dat; simp only [List.length_map, hm]
        rw [hm] at HCL hc0
        clear hm hg hgg hall' hrv hvl
        obtain ⟨qd, hqd⟩ : ∃ q : Int, (k : Int) / 7 = q := ⟨_, rfl⟩
        obtain ⟨qr, hqr⟩ : ∃ q : Int, (k : Int) % 7 = q := ⟨_, rfl⟩
        rw [hqd, hqr] at HG
        have b1 : 0 ≤ qd ∧ qd ≤ 49 := by omega
        have b2 : 0 ≤ qr ∧ qr ≤ 49 := by omega
        have t1 : (k : Int).tdiv 7 = qd := by rw [Int.tdiv_eq_ediv_of_nonneg (by omega)]; exact hqd
        have t2 : (k : Int).tmod 7 = qr := by rw [Int.tmod_eq_emod_of_nonneg (by omega)]; exact hqr
        have t3 : IntKind.i64.wrap qd = qd := IntWalk.i64_in _ (by omega)
        have t4 : IntKind.i64.wrap qr = qr := IntWalk.i64_in _ (by omega)
        clear hqd hqr
        have C0 := fun x : Lat wr => x.cell hc0
        by_cases d1 : 80 < m
        · have e1 : decide ((80 : Int) < (m : Int)) = true := by simp; omega
          have e1n : decide (80 < m) = true := by simp; omega
          have D1 := Lib.hid d1; clear d1
          go_wp2
          refine wp_region_lat (by kernel_rfl) (by kernel_rfl) ?_
          repeat (go_big_quiet_step (fail))
          refine wpQuiet_nil ?_
          rintro w3 ⟨⟨_, hb3⟩, rfl⟩
          have hB3 := hbel.trans (hb3.mono hbel.size)
          go_wp2
          go_ret
          exact ⟨ret_bool (by rw [← HZ2.out]; exact (range_no (k := k) (by rw [List.length_map, HL.out]; exact hlt) (by rw [HG.out]; have := D1.out; simp; omega)).symm), hB3⟩
        · have e1 : decide ((80 : Int) < (m : Int)) = false := by simp; omega
          have e1n : decide (80 < m) = false := by simp; omega
          have D1 : Hid (m ≤ 80) := by show _ ≤ _; omega
          clear d1
          by_cases d2 : qd = qr
          · have e2 : (qd == qr) = true := by simp [d2]
            by_cases d3 : 0 < m
            · have e3 : decide ((0 : Int) < (m : Int)) = true := by simp; omega
              have e3n : decide (0 < m) = true := by simp; omega
              have D2 := Lib.hid d2; have D3 := Lib.hid d3; clear d2
              go_wp2
              refine wp_region_lat (by kernel_rfl) (by kernel_rfl) ?_
              repeat (go_big_quiet_step (fail))
              refine wpQuiet_nil ?_
              rintro w3 ⟨⟨_, hb3⟩, rfl⟩
              have hB3 := hbel.trans (hb3.mono hbel.size)
              go_wp2
              go_ret
              exact ⟨ret_bool (by rw [← HZ2.out]; exact (range_no (k := k) (by rw [List.length_map, HL.out]; exact hlt) (by rw [HG.out]; simp [D2.out, D3.out])).symm), hB3⟩
            · obtain rfl : m = 0 := by omega
              have D2 := Lib.hid d2; clear d2 d3
              go_wp2
              refine wp_region_lat (by kernel_rfl) (by kernel_rfl) ?_
              repeat (go_big_quiet_step (fail))
              refine wpQuiet_nil ?_
              rintro w3 ⟨⟨_, hb3⟩, rfl⟩
              have hB3 := hbel.trans (hb3.mono hbel.size)
              have HB3 := Lib.hid hb3; clear hb3 C0
              go_wp2_with fail
              refine (HCL.out _ hB3 HB3.out).mono ?_
              rintro e w4 ⟨rfl, hb4⟩
              have hB4 := on_ hB3 hb4
              clear hb4
              rcases g with _ | _
              · go_wp2
                go_roundw
                case rel =>
                  refine ⟨k + 1, by omega, by go_num, fun j hj => ?_, hB4⟩
                  by_cases e : j = k
                  · rw [e, HG.out]; have := D1.out; have := D2.out; simp_all
                  · exact hall.out j (by omega)
                case measure => simp [intOf]; omega
              · go_wp2
                go_ret
                exact ⟨ret_bool (by rw [← HZ2.out]; exact (range_no (k := k) (by rw [List.length_map, HL.out]; exact hlt) (by rw [HG.out]; simp)).symm), hB4⟩
          · have e2 : (qd == qr) = false := by simpa using d2
            have D2 := Lib.hid d2; clear d2
            go_wp2
            refine wp_region_lat (by kernel_rfl) (by kernel_rfl) ?_
            repeat (go_big_quiet_step (fail))
            refine wpQuiet_nil ?_
            rintro w3 ⟨⟨_, hb3⟩, rfl⟩
            have hB3 := hbel.trans (hb3.mono hbel.size)
            have HB3 := Lib.hid hb3; clear hb3 C0
            go_wp2_with fail
            refine (HCL.out _ hB3 HB3.out).mono ?_
            rintro e w4 ⟨rfl, hb4⟩
            have hB4 := on_ hB3 hb4
            clear hb4
            rcases g with _ | _
            · go_wp2
              go_roundw
              case rel =>
                refine ⟨k + 1, by omega, by go_num, fun j hj => ?_, hB4⟩
                by_cases e : j = k
                · rw [e, HG.out]; have := D1.out; have := D2.out; simp_all
                · exact hall.out j (by omega)
              case measure => simp [intOf]; omega
            · go_wp2
              go_ret
              exact ⟨ret_bool (by rw [← HZ2.out]; exact (range_no (k := k) (by rw [List.length_map, HL.out]; exact hlt) (by rw [HG.out]; simp)).symm), hB4⟩
      · go_wp2
        go_ret
        exact ⟨ret_bool (by rw [← HZ2.out]; exact (range_yes fun j hj => hall.out j (by rw [List.length_map, HL.out] at hj; omega)).symm), hbel⟩
  · have hx : ((l : Int) != 49) = true := by simpa using h1
    have HZ2 : Hid (z = false) := by show _ = _; rw [← HZ.out]; simp [h1]
    clear h1
    go_enter Tryz.func58, Tryz.ntmps58
    go_wp2
    go_ret
    exact ⟨ret_bool HZ2.out.symm, Below.refl _ _⟩

theorem netOk_is (z : Bool) (n : Int) (hs : sizeB n = true) (A : Option Addr) (c : Nat) (xs : List Lp) (hz : (decide ((xs.length : Int) = n * n) && netB n (xs.map Lp.dat)) = z) (w : World) (hr : RdK KL w w.heap.size A xs) (hf : xs.length ≤ 1048576 ∧ ∀ i, i < xs.length → FewL (xs.getD i zL)) :
    Calls Tryz.prog 58 #[.int .i64 n, .slice A xs.length c] w fun e w' => e = .returned (.bool z) ∧ Below w.heap.size w w' := by
  rcases size_two hs with rfl | rfl
  · exact netOk_4 z A c xs hz w hr hf
  · exact netOk_7 z A c xs hz w hr hf

set_option maxHeartbeats 1600000 in
theorem implClusterOk_is (z : Bool) (q : Cq) (hz : cluB q.dat = z) (w : World) (hr : RdC4 w w.heap.size q) (hf : FewC q) :
    Calls Tryz.prog 32 #[q.agg] w fun e w' => e = .returned (.bool z) ∧ Below w.heap.size w w' := by
  obtain ⟨n, bad, rs, nt, Ab, Ar, An, cb, cr, cn⟩ := q
  obtain ⟨rb, rr, rn⟩ := hr
  obtain ⟨fb, fr, fn⟩ := hf
  simp only [Cq.agg, Cq.cells] at *
  obtain ⟨z1, h1⟩ : ∃ b, flagsB n bad = b := ⟨_, rfl⟩
  obtain ⟨z2, h2⟩ : ∃ b, (decide ((rs.length : Int) = n) && repsB n (rs.map Rq.dat)) = b := ⟨_, rfl⟩
  obtain ⟨z3, h3⟩ : ∃ b, (decide ((nt.length : Int) = n * n) && netB n (nt.map Lp.dat)) = b := ⟨_, rfl⟩
  have hz' : (sizeB n && (z1 && (z2 && z3))) = z := by
    rw [← hz, ← h1, ← h2, ← h3]
    unfold cluB lensC Cq.dat
    simp only [List.length_map]
    cases sizeB n <;> cases flagsB n bad <;> cases decide ((rs.length : Int) = n) <;> cases decide ((nt.length : Int) = n * n) <;> cases repsB n (rs.map Rq.dat) <;> cases netB n (nt.map Lp.dat) <;> rfl
  clear hz
  rcases hs : sizeB n with _ | _
  · have hzf : z = false := by rw [← hz', hs]; rfl
    subst hzf
    have HS := Lib.hid hs; clear hs hz' h1 h2 h3 rb rr rn fb fr fn
    obtain ⟨lb, elb⟩ : ∃ m, bad.length = m := ⟨_, rfl⟩
    obtain ⟨lr, elr⟩ : ∃ m, rs.length = m := ⟨_, rfl⟩
    obtain ⟨ln, eln⟩ : ∃ m, nt.length = m := ⟨_, rfl⟩
    simp only [elb, elr, eln]
    clear elb elr eln
    have hB := up_ (Below.refl w.heap.size w) (.cells #[.int .i64 n, .slice Ab lb cb, .slice Ar lr cr, .slice An ln cn] 33)
    have ka := Blk.new w 33 #[.int .i64 n, .slice Ab lb cb, .slice Ar lr cr, .slice An ln cn]
    have ra := ka.rule
    go_enter Tryz.func32, Tryz.ntmps32
    go_wp2_with (go_at_call 55; refine (implSize_is n false HS.out _).mono ?_; rintro e w1 ⟨rfl, h1⟩; obtain rfl := h1.symm)
    go_ret
    exact ⟨rfl, hB⟩
  · rw [hs] at hz'
    have HB1 := Lib.hid (fun (W : World) (h : Below w.heap.size w W) => flagsOk_is z1 n hs Ab cb bad h1 W ((rb.below h).more h.size) fb)
    have HB2 := Lib.hid (fun (W : World) (h : Below w.heap.size w W) => repsOk_is z2 n Ar cr rs h2 W ((rr.below h).more h.size) fr)
    have HB3 := Lib.hid (fun (W : World) (h : Below w.heap.size w W) => netOk_is z3 n hs An cn nt h3 W ((rn.below h).more h.size) fn)
    have HS := Lib.hid hs; have HZ := Lib.hid hz'; clear hs hz' h1 h2 h3 rb rr rn fb fr fn
    obtain ⟨lb, elb⟩ : ∃ m, bad.length = m := ⟨_, rfl⟩
    obtain ⟨lr, elr⟩ : ∃ m, rs.length = m := ⟨_, rfl⟩
    obtain ⟨ln, eln⟩ : ∃ m, nt.length = m := ⟨_, rfl⟩
    simp only [elb, elr, eln] at HB1 HB2 HB3 ⊢
    clear elb elr eln
    have hB := up_ (Below.refl w.heap.size w) (.cells #[.int .i64 n, .slice Ab lb cb, .slice Ar lr cr, .slice An ln cn] 33)
    have ka := Blk.new w 33 #[.int .i64 n, .slice Ab lb cb, .slice Ar lr cr, .slice An ln cn]
    have ra := ka.rule
    go_enter Tryz.func32, Tryz.ntmps32
    go_wp2_with fail
    refine (implSize_is n true HS.out _).mono ?_
    rintro e w0 ⟨rfl, hq⟩
    obtain rfl := hq.symm
    go_wp2_with fail
    refine (HB1.out _ hB).mono ?_
    rintro e w1 ⟨rfl, hb⟩
    have ka' := ka.on hb; have hB' := on_ hB hb; clear ka hB ra hb; have ka := ka'; have hB := hB'; clear ka' hB'; have ra := ka.rule
    rcases z1 with _ | _
    · go_wp2
      go_ret
      exact ⟨ret_bool (by rw [← HZ.out]; rfl), hB⟩
    go_wp2_with fail
    refine (HB2.out _ hB).mono ?_
    rintro e w2 ⟨rfl, hb⟩
    have ka' := ka.on hb; have hB' := on_ hB hb; clear ka hB ra hb; have ka := ka'; have hB := hB'; clear ka' hB'; have ra := ka.rule
    rcases z2 with _ | _
    · go_wp2
      go_ret
      exact ⟨ret_bool (by rw [← HZ.out]; rfl), hB⟩
    go_wp2_with fail
    refine (HB3.out _ hB).mono ?_
    rintro e w3 ⟨rfl, hb⟩
    have hB' := on_ hB hb; clear ka hB ra hb
    go_wp2
    go_ret
    exact ⟨ret_bool (by rw [← HZ.out]; cases z3 <;> rfl), hB'⟩
end Go.Proofs.YtfdfjmibjnmhpaaGreat.V
