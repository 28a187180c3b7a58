/-
  What the helpers of the laws count of rows of messages, links and replicas. What the helpers of the laws copy of rows of messages, links and replicas. What the helpers of the laws compare of rows of messages, links and replicas. Flags copied and compared; a cluster counted, copied, compared by the helpers of the laws. An argument that is a cluster, opened. No statement is proved here.
-/
import Derived.Test.YtfdfjmibjnmhpaaGreatK10
import Derived.Test.YtfdfjmibjnmhpaaGreatK08
import Derived.Test.YtfdfjmibjnmhpaaGreatK14
import Derived.StillTailTactics
import Derived.Deep.RegionWith
import Derived.Test.YtfdfjmibjnmhpaaGreatK15
set_option linter.unusedVariables false
set_option maxRecDepth 100000
namespace Go.Proofs.YtfdfjmibjnmhpaaGreat.V
open Go.RowKit Go.Proofs.YtfdfjmibjnmhpaaGreat.B

theorem szB1_any (A : Option Addr) (n c : Nat) (left : Int) (w : World) (hn : n ≤ maxLen) (h0 : 0 ≤ left) (h1 : left ≤ 1048576) :
    Calls Tryz.prog 25 #[.slice A n c, .int .i64 left] w fun e w' => e = .returned (.int .i64 (if left < n then -1 else left - n)) ∧ Below w.heap.size w w' := by
  unfold maxLen at hn
  by_cases h : left < n
  · rw [if_pos h]
    go_enter Tryz.func25, Tryz.ntmps25
    go_wp2
    go_ret
    exact ⟨rfl, Below.refl _ _⟩
  · rw [if_neg h]
    go_enter Tryz.func25, Tryz.ntmps25
    go_wp2
    go_ret
    exact ⟨rfl, Below.refl _ _⟩

set_option maxHeartbeats 1600000 in
theorem szMsgS_any (A : Option Addr) (c : Nat) (xs : List Mp) (left : Int) (w : World) (hr : RdK KM w w.heap.size A xs) (hL : xs.length ≤ maxLen ∧ ∀ i, i < xs.length → LensM (xs.getD i zM)) (h0 : 0 ≤ left) (h1 : left ≤ 1048576) :
    Calls Tryz.prog 48 #[.slice A xs.length c, .int .i64 left] w fun e w' => e = .returned (.int .i64 (if left < ((xs.length + tkS fM zM xs xs.length : Nat) : Int) then -1 else left - ((xs.length + tkS fM zM xs xs.length : Nat) : Int))) ∧ Below w.heap.size w w' := by
  obtain ⟨hn, hv⟩ := hL
  have hm := fun i => @tkS_mono _ fM zM xs i xs.length
  obtain ⟨n, hvn⟩ : ∃ n, xs.length = n := ⟨_, rfl⟩
  rw [hvn] at hn hv hm ⊢
  unfold maxLen at hn
  have HM := Lib.hid hm; clear hm
  have HVL := Lib.hid hv; clear hv
  have HV := Lib.hid hvn; clear hvn
  obtain ⟨z, hz⟩ : ∃ z : Int, (if left < ((n + tkS fM zM xs n : Nat) : Int) then -1 else left - ((n + tkS fM zM xs n : Nat) : Int)) = z := ⟨_, rfl⟩
  rw [hz]
  have HZ := Lib.hid hz; clear hz
  by_cases hneg : left < n
  · have hz : z = -1 := by rw [← HZ.out, if_pos (by omega)]
    subst hz
    go_enter Tryz.func48, Tryz.ntmps48
    go_wp2
    go_ret
    exact ⟨rfl, Below.refl _ _⟩
  · have hnn : ¬ (left - n < 0) := by omega
    go_enter Tryz.func48, Tryz.ntmps48
    go_wp2
    go_loopw [1, 5] (fun l i wr => ∃ (k : Nat) (y : Int), k ≤ n ∧ i = .int .i64 k ∧ l = .int .i64 y ∧ 0 ≤ y ∧ y ≤ 1048576 ∧ Hid (y = left - n - tkS fM zM xs k) ∧ Below w.heap.size w wr) (fun _ i _ => n - (intOf i).toNat)
    case atStart => exact ⟨0, left - n, Nat.zero_le _, rfl, rfl, by omega, by omega, by show _ = _; simp [tkS], Below.refl _ _⟩
    case round =>
      obtain ⟨k, y, hk, rfl, rfl, hy0, hy1, hy, hbel⟩ := hrel
      by_cases hlt : k < n
      · obtain ⟨b_, off, rfl, hb, hcs, hrv⟩ := RdK.at_ (hr.below hbel) (k := k) (by rw [HV.out]; omega)
        clear hr
        have hvl := HVL.out k hlt
        have hst : tkS fM zM xs (k + 1) = tkS fM zM xs k + fM (xs.getD k zM) := rfl
        have hmm := HM.out (k + 1) (by omega)
        change ∀ j, j < 6 → wr.cell? ⟨b_, off + k * 6 + j, none⟩ = (KM.cells (xs.getD k zM))[j]? at hcs
        change KM.rd wr w.heap.size (xs.getD k zM) at hrv
        obtain ⟨⟨mk, mv, mx, ma, mb, vs, A', c'⟩, hu⟩ : ∃ u, xs.getD k zM = u := ⟨_, rfl⟩
        rw [hu] at hcs hvl hst hrv
        have hc0 : wr.cell? ⟨b_, off + k * 6, none⟩ = some (.int .i64 mk) := hcs 0 (by decide)
        have hc1 : wr.cell? ⟨b_, off + k * 6 + 1, none⟩ = some (.int .i64 mv) := hcs 1 (by decide)
        have hc2 : wr.cell? ⟨b_, off + k * 6 + 2, none⟩ = some (.int .i64 mx) := hcs 2 (by decide)
        have hc3 : wr.cell? ⟨b_, off + k * 6 + 3, none⟩ = some (.int .i64 ma) := hcs 3 (by decide)
        have hc4 : wr.cell? ⟨b_, off + k * 6 + 4, none⟩ = some (.int .i64 mb) := hcs 4 (by decide)
        have hc5 : wr.cell? ⟨b_, off + k * 6 + 5, none⟩ = some (.slice A' vs.length c') := hcs 5 (by decide)
        clear hu hcs
        have hcl := szMsg_any mk mv mx ma mb A' vs.length c' y wr hvl hy0 hy1
        obtain ⟨m, hm⟩ : ∃ m, vs.length = m := ⟨_, rfl⟩
        have hst2 : tkS fM zM xs (k + 1) = tkS fM zM xs k + m := by rw [← hm]; exact hst
        have hvl2 : m ≤ maxLen := by rw [← hm]; exact hvl
        rw [hm] at hcl hc5
        clear hst hvl hrv hm
        have HS : Hid (tkS fM zM xs (k + 1) = tkS fM zM xs k + m ∧ tkS fM zM xs (k + 1) ≤ tkS fM zM xs n) := ⟨hst2, hmm⟩
        clear hst2 hmm
        by_cases hsm : y < (m : Int)
        · rw [if_pos hsm] at hcl
          have HC := Lib.hid hcl; clear hcl
          go_wp2_with fail
          refine HC.out.mono ?_
          rintro e w1 ⟨rfl, hb1⟩
          go_wp2
          go_ret
          obtain ⟨h2, h3⟩ := HS.out
          have h4 := hy.out
          exact ⟨ret_int2 (by rw [← HZ.out, if_pos (by omega)]), hbel.trans (hb1.mono hbel.size)⟩
        · rw [if_neg hsm] at hcl
          obtain ⟨z2, hz2⟩ : ∃ z : Int, y - m = z := ⟨_, rfl⟩
          rw [hz2] at hcl
          have HC := Lib.hid hcl; clear hcl
          have hz20 : 0 ≤ z2 := by omega
          have hz21 : z2 ≤ 1048576 := by omega
          have hnn2 : ¬ (z2 < 0) := by omega
          have HZ2 := Lib.hid hz2; clear hz2
          go_wp2_with fail
          refine HC.out.mono ?_
          rintro e w1 ⟨rfl, hb1⟩
          go_wp2
          go_roundw
          case rel =>
            refine ⟨k + 1, _, by omega, by go_num, rfl, hz20, hz21, ?_, hbel.trans (hb1.mono hbel.size)⟩
            have h2 := HS.out
            have h4 := hy.out
            have h5 := HZ2.out
            show _ = _
            omega
          case measure => simp [intOf]; omega
      · go_wp2
        go_ret
        have hkn : k = n := by omega
        subst hkn
        have h4 := hy.out
        exact ⟨ret_int2 (by rw [← HZ.out, if_neg (by omega), h4]; omega), hbel⟩

set_option maxHeartbeats 1600000 in
theorem szMsgSS_any (A : Option Addr) (c : Nat) (xs : List Lp) (left : Int) (w : World) (hr : RdK KL w w.heap.size A xs) (hL : xs.length ≤ maxLen ∧ ∀ i, i < xs.length → LensL (xs.getD i zL)) (h0 : 0 ≤ left) (h1 : left ≤ 1048576) :
    Calls Tryz.prog 27 #[.slice A xs.length c, .int .i64 left] w fun e w' => e = .returned (.int .i64 (if left < ((xs.length + tkS fL zL xs xs.length : Nat) : Int) then -1 else left - ((xs.length + tkS fL zL xs xs.length : Nat) : Int))) ∧ Below w.heap.size w w' := by
  obtain ⟨hn, hv⟩ := hL
  have hm := fun i => @tkS_mono _ fL zL xs i xs.length
  obtain ⟨n, hvn⟩ : ∃ n, xs.length = n := ⟨_, rfl⟩
  rw [hvn] at hn hv hm ⊢
  unfold maxLen at hn
  have HM := Lib.hid hm; clear hm
  have HVL := Lib.hid hv; clear hv
  have HV := Lib.hid hvn; clear hvn
  obtain ⟨z, hz⟩ : ∃ z : Int, (if left < ((n + tkS fL zL xs n : Nat) : Int) then -1 else left - ((n + tkS fL zL xs n : Nat) : Int)) = z := ⟨_, rfl⟩
  rw [hz]
  have HZ := Lib.hid hz; clear hz
  by_cases hneg : left < n
  · have hz : z = -1 := by rw [← HZ.out, if_pos (by omega)]
    subst hz
    go_enter Tryz.func27, Tryz.ntmps27
    go_wp2
    go_ret
    exact ⟨rfl, Below.refl _ _⟩
  · have hnn : ¬ (left - n < 0) := by omega
    go_enter Tryz.func27, Tryz.ntmps27
    go_wp2
    go_loopw [1, 5] (fun l i wr => ∃ (k : Nat) (y : Int), k ≤ n ∧ i = .int .i64 k ∧ l = .int .i64 y ∧ 0 ≤ y ∧ y ≤ 1048576 ∧ Hid (y = left - n - tkS fL zL xs k) ∧ Below w.heap.size w wr) (fun _ i _ => n - (intOf i).toNat)
    case atStart => exact ⟨0, left - n, Nat.zero_le _, rfl, rfl, by omega, by omega, by show _ = _; simp [tkS], Below.refl _ _⟩
    case round =>
      obtain ⟨k, y, hk, rfl, rfl, hy0, hy1, hy, hbel⟩ := hrel
      by_cases hlt : k < n
      · obtain ⟨b_, off, rfl, hb, hcs, hrv⟩ := RdK.at_ (hr.below hbel) (k := k) (by rw [HV.out]; omega)
        clear hr
        have hvl := HVL.out k hlt
        have hst : tkS fL zL xs (k + 1) = tkS fL zL xs k + fL (xs.getD k zL) := rfl
        have hmm := HM.out (k + 1) (by omega)
        change ∀ j, j < 1 → wr.cell? ⟨b_, off + k * 1 + j, none⟩ = (KL.cells (xs.getD k zL))[j]? at hcs
        change KL.rd wr w.heap.size (xs.getD k zL) at hrv
        obtain ⟨⟨ms, A', c'⟩, hu⟩ : ∃ u, xs.getD k zL = u := ⟨_, rfl⟩
        rw [hu] at hcs hvl hst hrv
        have hc0 : wr.cell? ⟨b_, off + k, none⟩ = some (.slice A' ms.length c') := by have := hcs 0 (by decide); simpa [KL] using this
        clear hu hcs
        have hcl := szMsgS_any A' c' ms y wr (hrv.more hbel.size) hvl hy0 hy1
        obtain ⟨m, hm⟩ : ∃ m, (ms.length + tkS fM zM ms ms.length) = m := ⟨_, rfl⟩
        have hst2 : tkS fL zL xs (k + 1) = tkS fL zL xs k + m := by rw [← hm]; exact hst
        rw [hm] at hcl
        obtain ⟨q, hq⟩ : ∃ q, ms.length = q := ⟨_, rfl⟩
        rw [hq] at hcl hc0
        clear hst hvl hrv hm hq
        have HS : Hid (tkS fL zL xs (k + 1) = tkS fL zL xs k + m ∧ tkS fL zL xs (k + 1) ≤ tkS fL zL xs n) := ⟨hst2, hmm⟩
        clear hst2 hmm
        by_cases hsm : y < (m : Int)
        · rw [if_pos hsm] at hcl
          have HC := Lib.hid hcl; clear hcl
          go_wp2_with fail
          refine HC.out.mono ?_
          rintro e w1 ⟨rfl, hb1⟩
          go_wp2
          go_ret
          obtain ⟨h2, h3⟩ := HS.out
          have h4 := hy.out
          exact ⟨ret_int2 (by rw [← HZ.out, if_pos (by omega)]), hbel.trans (hb1.mono hbel.size)⟩
        · rw [if_neg hsm] at hcl
          obtain ⟨z2, hz2⟩ : ∃ z : Int, y - m = z := ⟨_, rfl⟩
          rw [hz2] at hcl
          have HC := Lib.hid hcl; clear hcl
          have hz20 : 0 ≤ z2 := by omega
          have hz21 : z2 ≤ 1048576 := by omega
          have hnn2 : ¬ (z2 < 0) := by omega
          have HZ2 := Lib.hid hz2; clear hz2
          go_wp2_with fail
          refine HC.out.mono ?_
          rintro e w1 ⟨rfl, hb1⟩
          go_wp2
          go_roundw
          case rel =>
            refine ⟨k + 1, _, by omega, by go_num, rfl, hz20, hz21, ?_, hbel.trans (hb1.mono hbel.size)⟩
            have h2 := HS.out
            have h4 := hy.out
            have h5 := HZ2.out
            show _ = _
            omega
          case measure => simp [intOf]; omega
      · go_wp2
        go_ret
        have hkn : k = n := by omega
        subst hkn
        have h4 := hy.out
        exact ⟨ret_int2 (by rw [← HZ.out, if_neg (by omega), h4]; omega), hbel⟩

set_option maxHeartbeats 1600000 in
theorem szRepS_any (A : Option Addr) (c : Nat) (xs : List Rq) (left : Int) (w : World) (hr : RdK KQ w w.heap.size A xs) (hL : xs.length ≤ maxLen ∧ ∀ i, i < xs.length → LensQ (xs.getD i zQ)) (h0 : 0 ≤ left) (h1 : left ≤ 1048576) :
    Calls Tryz.prog 26 #[.slice A xs.length c, .int .i64 left] w fun e w' => e = .returned (.int .i64 (if left < ((xs.length + tkS tot zQ xs xs.length : Nat) : Int) then -1 else left - ((xs.length + tkS tot zQ xs xs.length : Nat) : Int))) ∧ Below w.heap.size w w' := by
  obtain ⟨hn, hv⟩ := hL
  have hm := fun i => @tkS_mono _ tot zQ xs i xs.length
  obtain ⟨n, hvn⟩ : ∃ n, xs.length = n := ⟨_, rfl⟩
  rw [hvn] at hn hv hm ⊢
  unfold maxLen at hn
  have HM := Lib.hid hm; clear hm
  have HVL := Lib.hid hv; clear hv
  have HV := Lib.hid hvn; clear hvn
  obtain ⟨z, hz⟩ : ∃ z : Int, (if left < ((n + tkS tot zQ xs n : Nat) : Int) then -1 else left - ((n + tkS tot zQ xs n : Nat) : Int)) = z := ⟨_, rfl⟩
  rw [hz]
  have HZ := Lib.hid hz; clear hz
  by_cases hneg : left < n
  · have hz : z = -1 := by rw [← HZ.out, if_pos (by omega)]
    subst hz
    go_enter Tryz.func26, Tryz.ntmps26
    go_wp2
    go_ret
    exact ⟨rfl, Below.refl _ _⟩
  · have hnn : ¬ (left - n < 0) := by omega
    go_enter Tryz.func26, Tryz.ntmps26
    go_wp2
    go_loopw [1, 5] (fun l i wr => ∃ (k : Nat) (y : Int), k ≤ n ∧ i = .int .i64 k ∧ l = .int .i64 y ∧ 0 ≤ y ∧ y ≤ 1048576 ∧ Hid (y = left - n - tkS tot zQ xs k) ∧ Below w.heap.size w wr) (fun _ i _ => n - (intOf i).toNat)
    case atStart => exact ⟨0, left - n, Nat.zero_le _, rfl, rfl, by omega, by omega, by show _ = _; simp [tkS], Below.refl _ _⟩
    case round =>
      obtain ⟨k, y, hk, rfl, rfl, hy0, hy1, hy, hbel⟩ := hrel
      by_cases hlt : k < n
      · obtain ⟨b_, off, rfl, hb, hcs, hrv⟩ := RdK.at_ (hr.below hbel) (k := k) (by rw [HV.out]; omega)
        clear hr
        have hvl := HVL.out k hlt
        have hst : tkS tot zQ xs (k + 1) = tkS tot zQ xs k + tot (xs.getD k zQ) := rfl
        have hmm := HM.out (k + 1) (by omega)
        change ∀ j, j < 14 → wr.cell? ⟨b_, off + k * 14 + j, none⟩ = (KQ.cells (xs.getD k zQ))[j]? at hcs
        change KQ.rd wr w.heap.size (xs.getD k zQ) at hrv
        obtain ⟨⟨qn, qid, qown, qview, qleft, qvoted, qlv, qlx, qdn, qpr, qvo, qre, qds, qhs, qAv, qAp, qAo, qAr, qAd, qAh, qcv, qcp, qco, qcr, qcd, qch⟩, hu⟩ : ∃ u, xs.getD k zQ = u := ⟨_, rfl⟩
        rw [hu] at hcs hvl hst hrv
        have hc0 : wr.cell? ⟨b_, off + k * 14, none⟩ = some (.int .i64 qn) := hcs 0 (by decide)
        have hc1 : wr.cell? ⟨b_, off + k * 14 + 1, none⟩ = some (.int .i64 qid) := hcs 1 (by decide)
        have hc2 : wr.cell? ⟨b_, off + k * 14 + 2, none⟩ = some (.int .i64 qown) := hcs 2 (by decide)
        have hc3 : wr.cell? ⟨b_, off + k * 14 + 3, none⟩ = some (.int .i64 qview) := hcs 3 (by decide)
        have hc4 : wr.cell? ⟨b_, off + k * 14 + 4, none⟩ = some (.int .i64 qleft) := hcs 4 (by decide)
        have hc5 : wr.cell? ⟨b_, off + k * 14 + 5, none⟩ = some (.slice qAv qvoted.length qcv) := hcs 5 (by decide)
        have hc6 : wr.cell? ⟨b_, off + k * 14 + 6, none⟩ = some (.int .i64 qlv) := hcs 6 (by decide)
        have hc7 : wr.cell? ⟨b_, off + k * 14 + 7, none⟩ = some (.int .i64 qlx) := hcs 7 (by decide)
        have hc8 : wr.cell? ⟨b_, off + k * 14 + 8, none⟩ = some (.int .i64 qdn) := hcs 8 (by decide)
        have hc9 : wr.cell? ⟨b_, off + k * 14 + 9, none⟩ = some (.slice qAp qpr.length qcp) := hcs 9 (by decide)
        have hc10 : wr.cell? ⟨b_, off + k * 14 + 10, none⟩ = some (.slice qAo qvo.length qco) := hcs 10 (by decide)
        have hc11 : wr.cell? ⟨b_, off + k * 14 + 11, none⟩ = some (.slice qAr qre.length qcr) := hcs 11 (by decide)
        have hc12 : wr.cell? ⟨b_, off + k * 14 + 12, none⟩ = some (.slice qAd qds.length qcd) := hcs 12 (by decide)
        have hc13 : wr.cell? ⟨b_, off + k * 14 + 13, none⟩ = some (.slice qAh qhs.length qch) := hcs 13 (by decide)
        clear hu hcs
        have hcl := szRep_any ⟨qn, qid, qown, qview, qleft, qvoted, qlv, qlx, qdn, qpr, qvo, qre, qds, qhs, qAv, qAp, qAo, qAr, qAd, qAh, qcv, qcp, qco, qcr, qcd, qch⟩ y wr (hrv.more hbel.size).h hvl hy0 hy1
        obtain ⟨m, hm⟩ : ∃ m, tot ⟨qn, qid, qown, qview, qleft, qvoted, qlv, qlx, qdn, qpr, qvo, qre, qds, qhs, qAv, qAp, qAo, qAr, qAd, qAh, qcv, qcp, qco, qcr, qcd, qch⟩ = m := ⟨_, rfl⟩
        have hst2 : tkS tot zQ xs (k + 1) = tkS tot zQ xs k + m := by rw [← hm]; exact hst
        rw [hm] at hcl
        simp only [Rq.agg, Rq.cells] at hcl
        obtain ⟨lv0, elv0⟩ : ∃ m, qvoted.length = m := ⟨_, rfl⟩
        obtain ⟨lp0, elp0⟩ : ∃ m, qpr.length = m := ⟨_, rfl⟩
        obtain ⟨lo0, elo0⟩ : ∃ m, qvo.length = m := ⟨_, rfl⟩
        obtain ⟨lr0, elr0⟩ : ∃ m, qre.length = m := ⟨_, rfl⟩
        obtain ⟨ld0, eld0⟩ : ∃ m, qds.length = m := ⟨_, rfl⟩
        obtain ⟨lh0, elh0⟩ : ∃ m, qhs.length = m := ⟨_, rfl⟩
        simp only [elv0, elp0, elo0, elr0, eld0, elh0] at hcl hc5 hc9 hc10 hc11 hc12 hc13
        clear hst hvl hrv hm elv0 elp0 elo0 elr0 eld0 elh0
        have HS : Hid (tkS tot zQ xs (k + 1) = tkS tot zQ xs k + m ∧ tkS tot zQ xs (k + 1) ≤ tkS tot zQ xs n) := ⟨hst2, hmm⟩
        clear hst2 hmm
        by_cases hsm : y < (m : Int)
        · rw [if_pos hsm] at hcl
          have HC := Lib.hid hcl; clear hcl
          go_wp2_with fail
          refine HC.out.mono ?_
          rintro e w1 ⟨rfl, hb1⟩
          go_wp2
          go_ret
          obtain ⟨h2, h3⟩ := HS.out
          have h4 := hy.out
          exact ⟨ret_int2 (by rw [← HZ.out, if_pos (by omega)]), hbel.trans (hb1.mono hbel.size)⟩
        · rw [if_neg hsm] at hcl
          obtain ⟨z2, hz2⟩ : ∃ z : Int, y - m = z := ⟨_, rfl⟩
          rw [hz2] at hcl
          have HC := Lib.hid hcl; clear hcl
          have hz20 : 0 ≤ z2 := by omega
          have hz21 : z2 ≤ 1048576 := by omega
          have hnn2 : ¬ (z2 < 0) := by omega
          have HZ2 := Lib.hid hz2; clear hz2
          go_wp2_with fail
          refine HC.out.mono ?_
          rintro e w1 ⟨rfl, hb1⟩
          go_wp2
          go_roundw
          case rel =>
            refine ⟨k + 1, _, by omega, by go_num, rfl, hz20, hz21, ?_, hbel.trans (hb1.mono hbel.size)⟩
            have h2 := HS.out
            have h4 := hy.out
            have h5 := HZ2.out
            show _ = _
            omega
          case measure => simp [intOf]; omega
      · go_wp2
        go_ret
        have hkn : k = n := by omega
        subst hkn
        have h4 := hy.out
        exact ⟨ret_int2 (by rw [← HZ.out, if_neg (by omega), h4]; omega), hbel⟩

end Go.Proofs.YtfdfjmibjnmhpaaGreat.V

namespace Go.Proofs.YtfdfjmibjnmhpaaGreat.V
open Go.RowKit Go.Proofs.YtfdfjmibjnmhpaaGreat.B

theorem toMsg1 (m : Mp) (w : World) (hr : KM.rd w w.heap.size m) (hf : FewM m) :
    Calls Tryz.prog 79 #[.agg m.cells] w fun e w' => ∃ u : Mp, e = .returned (.agg u.cells) ∧ u.dat = m.dat ∧ HiK KM w' w.heap.size u ∧ Below w.heap.size w w' :=
  (toMsg_any m.k m.v m.x m.a m.b m.A m.c m.vs w hr hf).mono fun e w' ⟨g, cs, he, hg, hk, hp, hb⟩ =>
    ⟨⟨m.k, m.v, m.x, m.a, m.b, m.vs, some ⟨g, 0, none⟩, m.vs.length⟩, he, rfl, ⟨fun w2 hk2 => Rd.hiAt (hp.rd hk hk.lt) hg hk2, hp.own hk hg⟩, hb⟩
theorem info_Msg : (Tryz.prog.info? 64).map (fun i => (i.zero, i.size, i.bytes)) = some (some (.agg #[.int .i64 0, .int .i64 0, .int .i64 0, .int .i64 0, .int .i64 0, .slice none 0 0]), 6, 64) := by kernel_rfl
set_option maxHeartbeats 3200000 in
theorem toMsgS_any (A : Option Addr) (c : Nat) (xs : List Mp) (w : World) (hr : RdK KM w w.heap.size A xs) (hf : xs.length ≤ 1048576 ∧ ∀ i, i < xs.length → FewM (xs.getD i zM)) :
    Calls Tryz.prog 54 #[.slice A xs.length c] w fun e w' => ∃ g cs qs, e = .returned (.slice (some ⟨g, 0, none⟩) xs.length xs.length) ∧ w.heap.size ≤ g ∧ Blk w' g 64 cs ∧ CpK KM Mp.dat w' g xs.length cs xs qs xs.length ∧ Below w.heap.size w w' := by
  obtain ⟨i0, hi, hz0, hz1, hz2⟩ := info_parts info_Msg
  obtain ⟨hn, hv⟩ := hf
  have hmk : ∀ u : World, (Instr.makeSlice 40 (.int .i64 (xs.length : Int)) (.int .i64 (xs.length : Int))).run Tryz.prog u =
      .ok (.slice (some ⟨u.heap.size, 0, none⟩) xs.length xs.length) (u.alloc (.cells (madeCells #[.int .i64 0, .int .i64 0, .int .i64 0, .int .i64 0, .int .i64 0, .slice none 0 0] (xs.length * 6)) 64)) := fun u => by
    have h := run_make_rowN (P := Tryz.prog) 40 64 i0 (.agg #[.int .i64 0, .int .i64 0, .int .i64 0, .int .i64 0, .int .i64 0, .slice none 0 0]) Tryz.underlying40 hi hz0 .i64 .i64 xs.length xs.length (Nat.le_refl _) (by rw [hz2]; omega) (by omega) u
    rw [h, hz1]; rfl
  clear hz2 hz1 hz0 hi
  obtain ⟨n, hvn⟩ : ∃ n, xs.length = n := ⟨_, rfl⟩
  rw [hvn] at hn hmk hv ⊢
  have HVL := Lib.hid hv; clear hv
  go_enter Tryz.func54, Tryz.ntmps54
  go_wp2
  have HV := Lib.hid hvn; clear hvn
  go_loopw [4] (fun i wr => ∃ (k : Nat) (cs : Array Value) (qs : List Mp), k ≤ n ∧ i = .int .i64 k ∧ Blk wr w.heap.size 64 cs ∧ Hid (CpK KM Mp.dat wr w.heap.size n cs xs qs k) ∧ Below w.heap.size w wr) (fun i _ => n - (intOf i).toNat)
  case atStart => exact ⟨0, _, [], Nat.zero_le _, rfl, Blk.new _ _ _, CpK.zero (by simp [madeCells, KM]), (Below.refl _ _).alloc (Nat.le_refl _) _⟩
  case round =>
    obtain ⟨k, cs, qs, hk, rfl, hblk, hpc, hbel⟩ := hrel
    by_cases hlt : k < n
    · obtain ⟨b_, off, rfl, hb, hcs, hrv⟩ := RdK.at_ (hr.below hbel) (k := k) (by rw [HV.out]; omega)
      clear hr
      have hvl := HVL.out k hlt
      have hsz : cs.size = n * 6 := hpc.out.2.2.1
      obtain ⟨x0_, hx0⟩ : ∃ x, cs[k * 6]? = some x := ⟨_, Array.getElem?_eq_getElem (by omega)⟩
      have HX0 := Lib.hid hx0
      obtain ⟨x1_, hx1⟩ : ∃ x, cs[k * 6 + 1]? = some x := ⟨_, Array.getElem?_eq_getElem (by omega)⟩
      have HX1 := Lib.hid hx1
      obtain ⟨x2_, hx2⟩ : ∃ x, cs[k * 6 + 2]? = some x := ⟨_, Array.getElem?_eq_getElem (by omega)⟩
      have HX2 := Lib.hid hx2
      obtain ⟨x3_, hx3⟩ : ∃ x, cs[k * 6 + 3]? = some x := ⟨_, Array.getElem?_eq_getElem (by omega)⟩
      have HX3 := Lib.hid hx3
      obtain ⟨x4_, hx4⟩ : ∃ x, cs[k * 6 + 4]? = some x := ⟨_, Array.getElem?_eq_getElem (by omega)⟩
      have HX4 := Lib.hid hx4
      obtain ⟨x5_, hx5⟩ : ∃ x, cs[k * 6 + 5]? = some x := ⟨_, Array.getElem?_eq_getElem (by omega)⟩
      have HX5 := Lib.hid hx5
      clear hsz hx0 hx1 hx2 hx3 hx4 hx5
      change ∀ j, j < 6 → wr.cell? ⟨b_, off + k * 6 + j, none⟩ = (KM.cells (xs.getD k zM))[j]? at hcs
      change KM.rd wr w.heap.size (xs.getD k zM) at hrv
      obtain ⟨⟨mk, mv, mx, ma, mb, vs, A', c'⟩, hu⟩ : ∃ u, xs.getD k zM = u := ⟨_, rfl⟩
      rw [hu] at hcs hvl hrv
      have hc0 : wr.cell? ⟨b_, off + k * 6, none⟩ = some (.int .i64 mk) := hcs 0 (by decide)
      have hc1 : wr.cell? ⟨b_, off + k * 6 + 1, none⟩ = some (.int .i64 mv) := hcs 1 (by decide)
      have hc2 : wr.cell? ⟨b_, off + k * 6 + 2, none⟩ = some (.int .i64 mx) := hcs 2 (by decide)
      have hc3 : wr.cell? ⟨b_, off + k * 6 + 3, none⟩ = some (.int .i64 ma) := hcs 3 (by decide)
      have hc4 : wr.cell? ⟨b_, off + k * 6 + 4, none⟩ = some (.int .i64 mb) := hcs 4 (by decide)
      have hc5 : wr.cell? ⟨b_, off + k * 6 + 5, none⟩ = some (.slice A' vs.length c') := hcs 5 (by decide)
      clear hcs
      have HU := Lib.hid hu; clear hu
      have HRV := Lib.hid (KM.more hrv hbel.size); clear hrv
      have HVV := Lib.hid hvl; clear hvl
      have hgl : w.heap.size < wr.heap.size := hblk.lt
      have HCL := Lib.hid (toMsg1 ⟨mk, mv, mx, ma, mb, vs, A', c'⟩ wr HRV.out HVV.out)
      simp only [Mp.cells] at HCL
      go_wp2_with fail
      refine HCL.out.mono ?_
      rintro e w1 ⟨⟨k1, v1, x1, a1, b1, vs1, A1, c1⟩, rfl, he1, hh1, hb1⟩
      have hblk1 := hblk.on hb1
      have hf0 := hblk1.frozen (k * 6)
      have hy0 := (hblk1.cell (k * 6)).trans HX0.out
      have hf1 := hblk1.frozen (k * 6 + 1)
      have hy1 := (hblk1.cell (k * 6 + 1)).trans HX1.out
      have hf2 := hblk1.frozen (k * 6 + 2)
      have hy2 := (hblk1.cell (k * 6 + 2)).trans HX2.out
      have hf3 := hblk1.frozen (k * 6 + 3)
      have hy3 := (hblk1.cell (k * 6 + 3)).trans HX3.out
      have hf4 := hblk1.frozen (k * 6 + 4)
      have hy4 := (hblk1.cell (k * 6 + 4)).trans HX4.out
      have hf5 := hblk1.frozen (k * 6 + 5)
      have hy5 := (hblk1.cell (k * 6 + 5)).trans HX5.out
      have hC := CpK.step hpc.out hlt HV.out ⟨k1, v1, x1, a1, b1, vs1, A1, c1⟩ (by show _ = Mp.dat (xs.getD k zM); rw [HU.out]; exact he1) hb1 (HiK.low hh1 (by omega))
      have hB1 := hbel.trans (hb1.mono hbel.size)
      have hblk2 := Blk.putW (k * KM.s) (KM.cells ⟨k1, v1, x1, a1, b1, vs1, A1, c1⟩).toList hblk1
      have hB2 := Below.putW (g := w.heap.size) (k * KM.s) (KM.cells ⟨k1, v1, x1, a1, b1, vs1, A1, c1⟩).toList hB1 (Nat.le_refl _)
      rw [show (KM.cells ⟨k1, v1, x1, a1, b1, vs1, A1, c1⟩).toList = [.int .i64 k1, .int .i64 v1, .int .i64 x1, .int .i64 a1, .int .i64 b1, .slice A1 vs1.length c1] from rfl, show KM.s = 6 from rfl] at hC hblk2 hB2
      simp only [putW, putA, Nat.add_assoc, Nat.reduceAdd] at hC hblk2 hB2
      have HC := Lib.hid hC; have HK2 := Lib.hid hblk2; have HB2 := Lib.hid hB2
      clear hh1 hb1 he1 hpc hB1 hC hblk2 hB2
      dsimp only
      go_wp2
      go_roundw
      case rel =>
        exact ⟨k + 1, _, _, by omega, by go_num, HK2.out, HC, HB2.out⟩
      case measure => simp [intOf]; omega
    · go_wp2
      go_ret
      have hkn : k = n := by omega
      subst hkn
      exact ⟨_, cs, qs, rfl, Nat.le_refl _, hblk, hpc.out, hbel⟩

theorem toMsgS_el (l : Lp) (w : World) (hr : KL.rd w w.heap.size l) (hf : FewL l) :
    Calls Tryz.prog 54 #[.slice l.A l.ms.length l.c] w fun e w' => ∃ u : Lp, e = .returned (.slice u.A u.ms.length u.c) ∧ u.dat = l.dat ∧ HiK KL w' w.heap.size u ∧ Below w.heap.size w w' :=
  (toMsgS_any l.A l.c l.ms w hr hf).mono fun e w' ⟨g, cs, qs, he, hg, hk, hp, hb⟩ =>
    ⟨⟨qs, some ⟨g, 0, none⟩, l.ms.length⟩, by rw [he]; exact congrArg _ (by rw [hp.1]), hp.same rfl, ⟨hp.hi hk hg, hp.own hk hg⟩, hb⟩
theorem info_MsgS : (Tryz.prog.info? 40).map (fun i => (i.zero, i.size, i.bytes)) = some (some (.slice none 0 0), 1, 24) := by kernel_rfl
set_option maxHeartbeats 3200000 in
theorem toMsgSS_any (A : Option Addr) (c : Nat) (xs : List Lp) (w : World) (hr : RdK KL w w.heap.size A xs) (hf : xs.length ≤ 1048576 ∧ ∀ i, i < xs.length → FewL (xs.getD i zL)) :
    Calls Tryz.prog 31 #[.slice A xs.length c] w fun e w' => ∃ g cs qs, e = .returned (.slice (some ⟨g, 0, none⟩) xs.length xs.length) ∧ w.heap.size ≤ g ∧ Blk w' g 40 cs ∧ CpK KL Lp.dat w' g xs.length cs xs qs xs.length ∧ Below w.heap.size w w' := by
  obtain ⟨i0, hi, hz0, hz1, hz2⟩ := info_parts info_MsgS
  obtain ⟨hn, hv⟩ := hf
  have hmk : ∀ u : World, (Instr.makeSlice 31 (.int .i64 (xs.length : Int)) (.int .i64 (xs.length : Int))).run Tryz.prog u =
      .ok (.slice (some ⟨u.heap.size, 0, none⟩) xs.length xs.length) (u.alloc (.cells (madeCells #[.slice none 0 0] (xs.length * 1)) 40)) := fun u => by
    have h := run_make_rowN (P := Tryz.prog) 31 40 i0 (.slice none 0 0) Tryz.underlying31 hi hz0 .i64 .i64 xs.length xs.length (Nat.le_refl _) (by rw [hz2]; omega) (by omega) u
    rw [h, hz1]; rfl
  clear hz2 hz1 hz0 hi
  obtain ⟨n, hvn⟩ : ∃ n, xs.length = n := ⟨_, rfl⟩
  rw [hvn] at hn hmk hv ⊢
  have HVL := Lib.hid hv; clear hv
  go_enter Tryz.func31, Tryz.ntmps31
  go_wp2
  have HV := Lib.hid hvn; clear hvn
  go_loopw [4] (fun i wr => ∃ (k : Nat) (cs : Array Value) (qs : List Lp), k ≤ n ∧ i = .int .i64 k ∧ Blk wr w.heap.size 40 cs ∧ Hid (CpK KL Lp.dat wr w.heap.size n cs xs qs k) ∧ Below w.heap.size w wr) (fun i _ => n - (intOf i).toNat)
  case atStart => exact ⟨0, _, [], Nat.zero_le _, rfl, Blk.new _ _ _, CpK.zero (by simp [madeCells, KL]), (Below.refl _ _).alloc (Nat.le_refl _) _⟩
  case round =>
    obtain ⟨k, cs, qs, hk, rfl, hblk, hpc, hbel⟩ := hrel
    by_cases hlt : k < n
    · obtain ⟨b_, off, rfl, hb, hcs, hrv⟩ := RdK.at_ (hr.below hbel) (k := k) (by rw [HV.out]; omega)
      clear hr
      have hvl := HVL.out k hlt
      have hsz : cs.size = n * 1 := hpc.out.2.2.1
      obtain ⟨x0_, hx0⟩ : ∃ x, cs[k]? = some x := ⟨_, Array.getElem?_eq_getElem (by omega)⟩
      have HX0 := Lib.hid hx0
      clear hsz hx0
      change ∀ j, j < 1 → wr.cell? ⟨b_, off + k * 1 + j, none⟩ = (KL.cells (xs.getD k zL))[j]? at hcs
      change KL.rd wr w.heap.size (xs.getD k zL) at hrv
      obtain ⟨⟨ms, A', c'⟩, hu⟩ : ∃ u, xs.getD k zL = u := ⟨_, rfl⟩
      rw [hu] at hcs hvl hrv
      have hc0 : wr.cell? ⟨b_, off + k, none⟩ = some (.slice A' ms.length c') := by have := hcs 0 (by decide); simpa [KL] using this
      clear hcs
      have HU := Lib.hid hu; clear hu
      have HRV := Lib.hid (KL.more hrv hbel.size); clear hrv
      have HVV := Lib.hid hvl; clear hvl
      have hgl : w.heap.size < wr.heap.size := hblk.lt
      go_wp2_with fail
      refine (toMsgS_el ⟨ms, A', c'⟩ _ HRV.out HVV.out).mono ?_
      rintro e w1 ⟨⟨ms1, A1, c1⟩, rfl, he1, hh1, hb1⟩
      have hblk1 := hblk.on hb1
      have hf0 := hblk1.frozen (k)
      have hy0 := (hblk1.cell (k)).trans HX0.out
      have hC := CpK.step hpc.out hlt HV.out ⟨ms1, A1, c1⟩ (by show _ = Lp.dat (xs.getD k zL); rw [HU.out]; exact he1) hb1 (HiK.low hh1 (by omega))
      have hB1 := hbel.trans (hb1.mono hbel.size)
      have hblk2 := Blk.putW (k * KL.s) (KL.cells ⟨ms1, A1, c1⟩).toList hblk1
      have hB2 := Below.putW (g := w.heap.size) (k * KL.s) (KL.cells ⟨ms1, A1, c1⟩).toList hB1 (Nat.le_refl _)
      rw [show (KL.cells ⟨ms1, A1, c1⟩).toList = [.slice A1 ms1.length c1] from rfl, show KL.s = 1 from rfl] at hC hblk2 hB2
      simp only [putW, putA, Nat.mul_one] at hC hblk2 hB2
      have HC := Lib.hid hC; have HK2 := Lib.hid hblk2; have HB2 := Lib.hid hB2
      clear hh1 hb1 he1 hpc hB1 hC hblk2 hB2
      go_wp2
      go_roundw
      case rel =>
        exact ⟨k + 1, _, _, by omega, by go_num, HK2.out, HC, HB2.out⟩
      case measure => simp [intOf]; omega
    · go_wp2
      go_ret
      have hkn : k = n := by omega
      subst hkn
      exact ⟨_, cs, qs, rfl, Nat.le_refl _, hblk, hpc.out, hbel⟩

theorem info_Rep : (Tryz.prog.info? 75).map (fun i => (i.zero, i.size, i.bytes)) = some (some (.agg #[.int .i64 0, .int .i64 0, .int .i64 0, .int .i64 0, .int .i64 0, .slice none 0 0, .int .i64 0, .int .i64 0, .int .i64 0, .slice none 0 0, .slice none 0 0, .slice none 0 0, .slice none 0 0, .slice none 0 0]), 14, 208) := by kernel_rfl
set_option maxHeartbeats 3200000 in
theorem toRepS_any (A : Option Addr) (c : Nat) (xs : List Rq) (w : World) (hr : RdK KQ w w.heap.size A xs) (hf : xs.length ≤ 1048576 ∧ ∀ i, i < xs.length → FewQ (xs.getD i zQ)) :
    Calls Tryz.prog 30 #[.slice A xs.length c] w fun e w' => ∃ g cs qs, e = .returned (.slice (some ⟨g, 0, none⟩) xs.length xs.length) ∧ w.heap.size ≤ g ∧ Blk w' g 75 cs ∧ CpK KQ Rq.dat w' g xs.length cs xs qs xs.length ∧ Below w.heap.size w w' := by
  obtain ⟨i0, hi, hz0, hz1, hz2⟩ := info_parts info_Rep
  obtain ⟨hn, hv⟩ := hf
  have hmk : ∀ u : World, (Instr.makeSlice 30 (.int .i64 (xs.length : Int)) (.int .i64 (xs.length : Int))).run Tryz.prog u =
      .ok (.slice (some ⟨u.heap.size, 0, none⟩) xs.length xs.length) (u.alloc (.cells (madeCells #[.int .i64 0, .int .i64 0, .int .i64 0, .int .i64 0, .int .i64 0, .slice none 0 0, .int .i64 0, .int .i64 0, .int .i64 0, .slice none 0 0, .slice none 0 0, .slice none 0 0, .slice none 0 0, .slice none 0 0] (xs.length * 14)) 75)) := fun u => by
    have h := run_make_rowN (P := Tryz.prog) 30 75 i0 (.agg #[.int .i64 0, .int .i64 0, .int .i64 0, .int .i64 0, .int .i64 0, .slice none 0 0, .int .i64 0, .int .i64 0, .int .i64 0, .slice none 0 0, .slice none 0 0, .slice none 0 0, .slice none 0 0, .slice none 0 0]) Tryz.underlying30 hi hz0 .i64 .i64 xs.length xs.length (Nat.le_refl _) (by rw [hz2]; omega) (by omega) u
    rw [h, hz1]; rfl
  clear hz2 hz1 hz0 hi
  obtain ⟨n, hvn⟩ : ∃ n, xs.length = n := ⟨_, rfl⟩
  rw [hvn] at hn hmk hv ⊢
  have HVL := Lib.hid hv; clear hv
  go_enter Tryz.func30, Tryz.ntmps30
  go_wp2
  have HV := Lib.hid hvn; clear hvn
  go_loopw [4] (fun i wr => ∃ (k : Nat) (cs : Array Value) (qs : List Rq), k ≤ n ∧ i = .int .i64 k ∧ Blk wr w.heap.size 75 cs ∧ Hid (CpK KQ Rq.dat wr w.heap.size n cs xs qs k) ∧ Below w.heap.size w wr) (fun i _ => n - (intOf i).toNat)
  case atStart => exact ⟨0, _, [], Nat.zero_le _, rfl, Blk.new _ _ _, CpK.zero (by simp [madeCells, KQ]), (Below.refl _ _).alloc (Nat.le_refl _) _⟩
  case round =>
    obtain ⟨k, cs, qs, hk, rfl, hblk, hpc, hbel⟩ := hrel
    by_cases hlt : k < n
    · obtain ⟨b_, off, rfl, hb, hcs, hrv⟩ := RdK.at_ (hr.below hbel) (k := k) (by rw [HV.out]; omega)
      clear hr
      have hvl := HVL.out k hlt
      have hsz : cs.size = n * 14 := hpc.out.2.2.1
      obtain ⟨x0_, hx0⟩ : ∃ x, cs[k * 14]? = some x := ⟨_, Array.getElem?_eq_getElem (by omega)⟩
      have HX0 := Lib.hid hx0
      obtain ⟨x1_, hx1⟩ : ∃ x, cs[k * 14 + 1]? = some x := ⟨_, Array.getElem?_eq_getElem (by omega)⟩
      have HX1 := Lib.hid hx1
      obtain ⟨x2_, hx2⟩ : ∃ x, cs[k * 14 + 2]? = some x := ⟨_, Array.getElem?_eq_getElem (by omega)⟩
      have HX2 := Lib.hid hx2
      obtain ⟨x3_, hx3⟩ : ∃ x, cs[k * 14 + 3]? = some x := ⟨_, Array.getElem?_eq_getElem (by omega)⟩
      have HX3 := Lib.hid hx3
      obtain ⟨x4_, hx4⟩ : ∃ x, cs[k * 14 + 4]? = some x := ⟨_, Array.getElem?_eq_getElem (by omega)⟩
      have HX4 := Lib.hid hx4
      obtain ⟨x5_, hx5⟩ : ∃ x, cs[k * 14 + 5]? = some x := ⟨_, Array.getElem?_eq_getElem (by omega)⟩
      have HX5 := Lib.hid hx5
      obtain ⟨x6_, hx6⟩ : ∃ x, cs[k * 14 + 6]? = some x := ⟨_, Array.getElem?_eq_getElem (by omega)⟩
      have HX6 := Lib.hid hx6
      obtain ⟨x7_, hx7⟩ : ∃ x, cs[k * 14 + 7]? = some x := ⟨_, Array.getElem?_eq_getElem (by omega)⟩
      have HX7 := Lib.hid hx7
      obtain ⟨x8_, hx8⟩ : ∃ x, cs[k * 14 + 8]? = some x := ⟨_, Array.getElem?_eq_getElem (by omega)⟩
      have HX8 := Lib.hid hx8
      obtain ⟨x9_, hx9⟩ : ∃ x, cs[k * 14 + 9]? = some x := ⟨_, Array.getElem?_eq_getElem (by omega)⟩
      have HX9 := Lib.hid hx9
      obtain ⟨x10_, hx10⟩ : ∃ x, cs[k * 14 + 10]? = some x := ⟨_, Array.getElem?_eq_getElem (by omega)⟩
      have HX10 := Lib.hid hx10
      obtain ⟨x11_, hx11⟩ : ∃ x, cs[k * 14 + 11]? = some x := ⟨_, Array.getElem?_eq_getElem (by omega)⟩
      have HX11 := Lib.hid hx11
      obtain ⟨x12_, hx12⟩ : ∃ x, cs[k * 14 + 12]? = some x := ⟨_, Array.getElem?_eq_getElem (by omega)⟩
      have HX12 := Lib.hid hx12
      obtain ⟨x13_, hx13⟩ : ∃ x, cs[k * 14 + 13]? = some x := ⟨_, Array.getElem?_eq_getElem (by omega)⟩
      have HX13 := Lib.hid hx13
      clear hsz hx0 hx1 hx2 hx3 hx4 hx5 hx6 hx7 hx8 hx9 hx10 hx11 hx12 hx13
      change ∀ j, j < 14 → wr.cell? ⟨b_, off + k * 14 + j, none⟩ = (KQ.cells (xs.getD k zQ))[j]? at hcs
      change KQ.rd wr w.heap.size (xs.getD k zQ) at hrv
      obtain ⟨⟨qn, qid, qown, qview, qleft, qvoted, qlv, qlx, qdn, qpr, qvo, qre, qds, qhs, qAv, qAp, qAo, qAr, qAd, qAh, qcv, qcp, qco, qcr, qcd, qch⟩, hu⟩ : ∃ u, xs.getD k zQ = u := ⟨_, rfl⟩
      rw [hu] at hcs hvl hrv
      have hc0 : wr.cell? ⟨b_, off + k * 14, none⟩ = some (.int .i64 qn) := hcs 0 (by decide)
      have hc1 : wr.cell? ⟨b_, off + k * 14 + 1, none⟩ = some (.int .i64 qid) := hcs 1 (by decide)
      have hc2 : wr.cell? ⟨b_, off + k * 14 + 2, none⟩ = some (.int .i64 qown) := hcs 2 (by decide)
      have hc3 : wr.cell? ⟨b_, off + k * 14 + 3, none⟩ = some (.int .i64 qview) := hcs 3 (by decide)
      have hc4 : wr.cell? ⟨b_, off + k * 14 + 4, none⟩ = some (.int .i64 qleft) := hcs 4 (by decide)
      have hc5 : wr.cell? ⟨b_, off + k * 14 + 5, none⟩ = some (.slice qAv qvoted.length qcv) := hcs 5 (by decide)
      have hc6 : wr.cell? ⟨b_, off + k * 14 + 6, none⟩ = some (.int .i64 qlv) := hcs 6 (by decide)
      have hc7 : wr.cell? ⟨b_, off + k * 14 + 7, none⟩ = some (.int .i64 qlx) := hcs 7 (by decide)
      have hc8 : wr.cell? ⟨b_, off + k * 14 + 8, none⟩ = some (.int .i64 qdn) := hcs 8 (by decide)
      have hc9 : wr.cell? ⟨b_, off + k * 14 + 9, none⟩ = some (.slice qAp qpr.length qcp) := hcs 9 (by decide)
      have hc10 : wr.cell? ⟨b_, off + k * 14 + 10, none⟩ = some (.slice qAo qvo.length qco) := hcs 10 (by decide)
      have hc11 : wr.cell? ⟨b_, off + k * 14 + 11, none⟩ = some (.slice qAr qre.length qcr) := hcs 11 (by decide)
      have hc12 : wr.cell? ⟨b_, off + k * 14 + 12, none⟩ = some (.slice qAd qds.length qcd) := hcs 12 (by decide)
      have hc13 : wr.cell? ⟨b_, off + k * 14 + 13, none⟩ = some (.slice qAh qhs.length qch) := hcs 13 (by decide)
      clear hcs
      have HU := Lib.hid hu; clear hu
      have HRV := Lib.hid (KQ.more hrv hbel.size); clear hrv
      have HVV := Lib.hid hvl; clear hvl
      have hgl : w.heap.size < wr.heap.size := hblk.lt
      have HCL := Lib.hid (toRep_hi ⟨qn, qid, qown, qview, qleft, qvoted, qlv, qlx, qdn, qpr, qvo, qre, qds, qhs, qAv, qAp, qAo, qAr, qAd, qAh, qcv, qcp, qco, qcr, qcd, qch⟩ wr HRV.out HVV.out)
      simp only [Rq.agg, Rq.cells] at HCL
      go_wp2_with fail
      refine HCL.out.mono ?_
      rintro e w1 ⟨⟨qn1, qid1, qown1, qview1, qleft1, qvoted1, qlv1, qlx1, qdn1, qpr1, qvo1, qre1, qds1, qhs1, qAv1, qAp1, qAo1, qAr1, qAd1, qAh1, qcv1, qcp1, qco1, qcr1, qcd1, qch1⟩, rfl, he1, hh1, hb1⟩
      have hblk1 := hblk.on hb1
      have hf0 := hblk1.frozen (k * 14)
      have hy0 := (hblk1.cell (k * 14)).trans HX0.out
      have hf1 := hblk1.frozen (k * 14 + 1)
      have hy1 := (hblk1.cell (k * 14 + 1)).trans HX1.out
      have hf2 := hblk1.frozen (k * 14 + 2)
      have hy2 := (hblk1.cell (k * 14 + 2)).trans HX2.out
      have hf3 := hblk1.frozen (k * 14 + 3)
      have hy3 := (hblk1.cell (k * 14 + 3)).trans HX3.out
      have hf4 := hblk1.frozen (k * 14 + 4)
      have hy4 := (hblk1.cell (k * 14 + 4)).trans HX4.out
      have hf5 := hblk1.frozen (k * 14 + 5)
      have hy5 := (hblk1.cell (k * 14 + 5)).trans HX5.out
      have hf6 := hblk1.frozen (k * 14 + 6)
      have hy6 := (hblk1.cell (k * 14 + 6)).trans HX6.out
      have hf7 := hblk1.frozen (k * 14 + 7)
      have hy7 := (hblk1.cell (k * 14 + 7)).trans HX7.out
      have hf8 := hblk1.frozen (k * 14 + 8)
      have hy8 := (hblk1.cell (k * 14 + 8)).trans HX8.out
      have hf9 := hblk1.frozen (k * 14 + 9)
      have hy9 := (hblk1.cell (k * 14 + 9)).trans HX9.out
      have hf10 := hblk1.frozen (k * 14 + 10)
      have hy10 := (hblk1.cell (k * 14 + 10)).trans HX10.out
      have hf11 := hblk1.frozen (k * 14 + 11)
      have hy11 := (hblk1.cell (k * 14 + 11)).trans HX11.out
      have hf12 := hblk1.frozen (k * 14 + 12)
      have hy12 := (hblk1.cell (k * 14 + 12)).trans HX12.out
      have hf13 := hblk1.frozen (k * 14 + 13)
      have hy13 := (hblk1.cell (k * 14 + 13)).trans HX13.out
      have hC := CpK.step hpc.out hlt HV.out ⟨qn1, qid1, qown1, qview1, qleft1, qvoted1, qlv1, qlx1, qdn1, qpr1, qvo1, qre1, qds1, qhs1, qAv1, qAp1, qAo1, qAr1, qAd1, qAh1, qcv1, qcp1, qco1, qcr1, qcd1, qch1⟩ (by show _ = Rq.dat (xs.getD k zQ); rw [HU.out]; exact he1) hb1 (HiK.low hh1 (by omega))
      have hB1 := hbel.trans (hb1.mono hbel.size)
      have hblk2 := Blk.putW (k * KQ.s) (KQ.cells ⟨qn1, qid1, qown1, qview1, qleft1, qvoted1, qlv1, qlx1, qdn1, qpr1, qvo1, qre1, qds1, qhs1, qAv1, qAp1, qAo1, qAr1, qAd1, qAh1, qcv1, qcp1, qco1, qcr1, qcd1, qch1⟩).toList hblk1
      have hB2 := Below.putW (g := w.heap.size) (k * KQ.s) (KQ.cells ⟨qn1, qid1, qown1, qview1, qleft1, qvoted1, qlv1, qlx1, qdn1, qpr1, qvo1, qre1, qds1, qhs1, qAv1, qAp1, qAo1, qAr1, qAd1, qAh1, qcv1, qcp1, qco1, qcr1, qcd1, qch1⟩).toList hB1 (Nat.le_refl _)
      rw [show (KQ.cells ⟨qn1, qid1, qown1, qview1, qleft1, qvoted1, qlv1, qlx1, qdn1, qpr1, qvo1, qre1, qds1, qhs1, qAv1, qAp1, qAo1, qAr1, qAd1, qAh1, qcv1, qcp1, qco1, qcr1, qcd1, qch1⟩).toList = [.int .i64 qn1, .int .i64 qid1, .int .i64 qown1, .int .i64 qview1, .int .i64 qleft1, .slice qAv1 qvoted1.length qcv1, .int .i64 qlv1, .int .i64 qlx1, .int .i64 qdn1, .slice qAp1 qpr1.length qcp1, .slice qAo1 qvo1.length qco1, .slice qAr1 qre1.length qcr1, .slice qAd1 qds1.length qcd1, .slice qAh1 qhs1.length qch1] from rfl, show KQ.s = 14 from rfl] at hC hblk2 hB2
      simp only [putW, putA, Nat.add_assoc, Nat.reduceAdd] at hC hblk2 hB2
      have HC := Lib.hid hC; have HK2 := Lib.hid hblk2; have HB2 := Lib.hid hB2
      clear hh1 hb1 he1 hpc hB1 hC hblk2 hB2
      dsimp only
      go_wp2
      go_roundw
      case rel =>
        exact ⟨k + 1, _, _, by omega, by go_num, HK2.out, HC, HB2.out⟩
      case measure => simp [intOf]; omega
    · go_wp2
      go_ret
      have hkn : k = n := by omega
      subst hkn
      exact ⟨_, cs, qs, rfl, Nat.le_refl _, hblk, hpc.out, hbel⟩

end Go.Proofs.YtfdfjmibjnmhpaaGreat.V

namespace Go.Proofs.YtfdfjmibjnmhpaaGreat.V
open Go.RowKit Go.Proofs.YtfdfjmibjnmhpaaGreat.B

set_option maxHeartbeats 3200000 in
theorem eqMsgS_same (A C : Option Addr) (c d : Nat) (xs ys : List Mp) (hxy : ys.map Mp.dat = xs.map Mp.dat) (w : World) (hr : RdK KM w w.heap.size A xs) (hq : RdK KM w w.heap.size C ys) (hf : xs.length ≤ 1048576 ∧ ∀ i, i < xs.length → FewM (xs.getD i zM)) :
    Calls Tryz.prog 18 #[.slice A xs.length c, .slice C xs.length d] w fun e w' => e = .returned (.bool true) ∧ Below w.heap.size w w' := by
  have hlen := same_len hxy
  have hel : ∀ k, Mp.dat (ys.getD k zM) = Mp.dat (xs.getD k zM) := fun k => same_at hxy k
  obtain ⟨hn, hv⟩ := hf
  obtain ⟨n, hvn⟩ : ∃ n, xs.length = n := ⟨_, rfl⟩
  rw [hvn] at hn hv hlen ⊢
  have HVL := Lib.hid hv; clear hv
  have HV := Lib.hid hvn; clear hvn
  have HQ := Lib.hid hlen; clear hlen
  have HE := Lib.hid hel; clear hel hxy
  go_enter Tryz.func18, Tryz.ntmps18
  have hne : ∀ i : Int, (i != i) = false := fun i => by simp
  go_wp2
  go_loopw [5] (fun i wr => ∃ (k : Nat), k ≤ n ∧ i = .int .i64 k ∧ Below w.heap.size w wr) (fun i _ => n - (intOf i).toNat)
  case atStart => exact ⟨0, Nat.zero_le _, rfl, Below.refl _ _⟩
  case round =>
    obtain ⟨k, hk, rfl, hbel⟩ := hrel
    by_cases hlt : k < n
    · obtain ⟨b_, off, rfl, hb, hcs, hrv⟩ := RdK.at_ (hr.below hbel) (k := k) (by rw [HV.out]; omega)
      obtain ⟨b2_, off2, rfl, hb2, hcs2, hrv2⟩ := RdK.at_ (hq.below hbel) (k := k) (by rw [HQ.out]; omega)
      clear hr hq
      have hvl := HVL.out k hlt
      have he := HE.out k
      change ∀ j, j < 6 → wr.cell? ⟨b_, off + k * 6 + j, none⟩ = (KM.cells (xs.getD k zM))[j]? at hcs
      change ∀ j, j < 6 → wr.cell? ⟨b2_, off2 + k * 6 + j, none⟩ = (KM.cells (ys.getD k zM))[j]? at hcs2
      change KM.rd wr w.heap.size (xs.getD k zM) at hrv
      change KM.rd wr w.heap.size (ys.getD k zM) at hrv2
      obtain ⟨⟨mk, mv, mx, ma, mb, vs, A', c'⟩, hu⟩ : ∃ u, xs.getD k zM = u := ⟨_, rfl⟩
      obtain ⟨⟨mk2, mv2, mx2, ma2, mb2, vs2, A2, c2⟩, hu2⟩ : ∃ u, ys.getD k zM = u := ⟨_, rfl⟩
      rw [hu] at hcs hvl hrv he
      rw [hu2] at hcs2 hrv2 he
      clear hu hu2
      have hc0 : wr.cell? ⟨b_, off + k * 6, none⟩ = some (.int .i64 mk) := hcs 0 (by decide)
      have hc1 : wr.cell? ⟨b_, off + k * 6 + 1, none⟩ = some (.int .i64 mv) := hcs 1 (by decide)
      have hc2 : wr.cell? ⟨b_, off + k * 6 + 2, none⟩ = some (.int .i64 mx) := hcs 2 (by decide)
      have hc3 : wr.cell? ⟨b_, off + k * 6 + 3, none⟩ = some (.int .i64 ma) := hcs 3 (by decide)
      have hc4 : wr.cell? ⟨b_, off + k * 6 + 4, none⟩ = some (.int .i64 mb) := hcs 4 (by decide)
      have hc5 : wr.cell? ⟨b_, off + k * 6 + 5, none⟩ = some (.slice A' vs.length c') := hcs 5 (by decide)
      have hd0 : wr.cell? ⟨b2_, off2 + k * 6, none⟩ = some (.int .i64 mk2) := hcs2 0 (by decide)
      have hd1 : wr.cell? ⟨b2_, off2 + k * 6 + 1, none⟩ = some (.int .i64 mv2) := hcs2 1 (by decide)
      have hd2 : wr.cell? ⟨b2_, off2 + k * 6 + 2, none⟩ = some (.int .i64 mx2) := hcs2 2 (by decide)
      have hd3 : wr.cell? ⟨b2_, off2 + k * 6 + 3, none⟩ = some (.int .i64 ma2) := hcs2 3 (by decide)
      have hd4 : wr.cell? ⟨b2_, off2 + k * 6 + 4, none⟩ = some (.int .i64 mb2) := hcs2 4 (by decide)
      have hd5 : wr.cell? ⟨b2_, off2 + k * 6 + 5, none⟩ = some (.slice A2 vs2.length c2) := hcs2 5 (by decide)
      clear hcs hcs2
      have HR1 := Lib.hid (KM.more hrv hbel.size); clear hrv
      have HR2 := Lib.hid (KM.more hrv2 hbel.size); clear hrv2
      have HVV := Lib.hid hvl; clear hvl
      simp only [Mp.dat, Md.mk.injEq] at he
      obtain ⟨rfl, rfl, rfl, rfl, rfl, rfl⟩ := he
      have HCL := Lib.hid (fun (W : World) (h : Below w.heap.size w W) (g1 : Rd W W.heap.size A' vs2) (g2 : Rd W W.heap.size A2 vs2) => eqMsg_same mk2 mv2 mx2 ma2 mb2 A' A2 c' c2 vs2 W g1 g2 HVV.out)
      go_wp2
      go_still_tail 8, (by kernel_rfl)
      have hbd : Below w.heap.size w wr.drew := hbel.drew
      have hd1 := Lib.hid (KM.keep (w' := wr.drew) HR1.out fun _ _ _ => rfl)
      have hd2 := Lib.hid (KM.keep (w' := wr.drew) HR2.out fun _ _ _ => rfl)
      change wpList _ _ _ _ _ wr.drew
      go_wp2_with fail
      refine (HCL.out wr.drew hbd hd1.out hd2.out).mono ?_
      rintro e w1 ⟨rfl, hb1⟩
      go_wp2
      go_roundw
      case rel => exact ⟨k + 1, by omega, by go_num, hbd.trans (hb1.mono hbd.size)⟩
      case measure => simp [intOf]; omega
    · go_wp2
      go_ret
      exact ⟨rfl, hbel⟩

set_option maxHeartbeats 3200000 in
theorem eqMsgSS_same (A C : Option Addr) (c d : Nat) (xs ys : List Lp) (hxy : ys.map Lp.dat = xs.map Lp.dat) (w : World) (hr : RdK KL w w.heap.size A xs) (hq : RdK KL w w.heap.size C ys) (hf : xs.length ≤ 1048576 ∧ ∀ i, i < xs.length → FewL (xs.getD i zL)) :
    Calls Tryz.prog 35 #[.slice A xs.length c, .slice C xs.length d] w fun e w' => e = .returned (.bool true) ∧ Below w.heap.size w w' := by
  have hlen := same_len hxy
  have hel : ∀ k, Lp.dat (ys.getD k zL) = Lp.dat (xs.getD k zL) := fun k => same_at hxy k
  obtain ⟨hn, hv⟩ := hf
  obtain ⟨n, hvn⟩ : ∃ n, xs.length = n := ⟨_, rfl⟩
  rw [hvn] at hn hv hlen ⊢
  have HVL := Lib.hid hv; clear hv
  have HV := Lib.hid hvn; clear hvn
  have HQ := Lib.hid hlen; clear hlen
  have HE := Lib.hid hel; clear hel hxy
  go_enter Tryz.func35, Tryz.ntmps35
  have hne : ∀ i : Int, (i != i) = false := fun i => by simp
  go_wp2
  go_loopw [5] (fun i wr => ∃ (k : Nat), k ≤ n ∧ i = .int .i64 k ∧ Below w.heap.size w wr) (fun i _ => n - (intOf i).toNat)
  case atStart => exact ⟨0, Nat.zero_le _, rfl, Below.refl _ _⟩
  case round =>
    obtain ⟨k, hk, rfl, hbel⟩ := hrel
    by_cases hlt : k < n
    · obtain ⟨b_, off, rfl, hb, hcs, hrv⟩ := RdK.at_ (hr.below hbel) (k := k) (by rw [HV.out]; omega)
      obtain ⟨b2_, off2, rfl, hb2, hcs2, hrv2⟩ := RdK.at_ (hq.below hbel) (k := k) (by rw [HQ.out]; omega)
      clear hr hq
      have hvl := HVL.out k hlt
      have he := HE.out k
      change ∀ j, j < 1 → wr.cell? ⟨b_, off + k * 1 + j, none⟩ = (KL.cells (xs.getD k zL))[j]? at hcs
      change ∀ j, j < 1 → wr.cell? ⟨b2_, off2 + k * 1 + j, none⟩ = (KL.cells (ys.getD k zL))[j]? at hcs2
      change KL.rd wr w.heap.size (xs.getD k zL) at hrv
      change KL.rd wr w.heap.size (ys.getD k zL) at hrv2
      obtain ⟨⟨ms, A', c'⟩, hu⟩ : ∃ u, xs.getD k zL = u := ⟨_, rfl⟩
      obtain ⟨⟨ms2, A2, c2⟩, hu2⟩ : ∃ u, ys.getD k zL = u := ⟨_, rfl⟩
      rw [hu] at hcs hvl hrv he
      rw [hu2] at hcs2 hrv2 he
      clear hu hu2
      have hc0 : wr.cell? ⟨b_, off + k, none⟩ = some (.slice A' ms.length c') := by have := hcs 0 (by decide); simpa [KL] using this
      have hd0 : wr.cell? ⟨b2_, off2 + k, none⟩ = some (.slice A2 ms2.length c2) := by have := hcs2 0 (by decide); simpa [KL] using this
      clear hcs hcs2
      have HR1 := Lib.hid (KL.more hrv hbel.size); clear hrv
      have HR2 := Lib.hid (KL.more hrv2 hbel.size); clear hrv2
      have HVV := Lib.hid hvl; clear hvl
      have hll : ms2.length = ms.length := same_len (dat := Mp.dat) he
      rw [hll] at hd0
      have HCL := Lib.hid (fun (W : World) (h : Below w.heap.size w W) (g1 : RdK KM W W.heap.size A' ms) (g2 : RdK KM W W.heap.size A2 ms2) => eqMsgS_same A' A2 c' c2 ms ms2 he W g1 g2 HVV.out)
      clear he hll
      go_wp2
      go_still_tail 8, (by kernel_rfl)
      have hbd : Below w.heap.size w wr.drew := hbel.drew
      have hd1 := Lib.hid (KL.keep (w' := wr.drew) HR1.out fun _ _ _ => rfl)
      have hd2 := Lib.hid (KL.keep (w' := wr.drew) HR2.out fun _ _ _ => rfl)
      change wpList _ _ _ _ _ wr.drew
      go_wp2_with fail
      refine (HCL.out wr.drew hbd hd1.out hd2.out).mono ?_
      rintro e w1 ⟨rfl, hb1⟩
      go_wp2
      go_roundw
      case rel => exact ⟨k + 1, by omega, by go_num, hbd.trans (hb1.mono hbd.size)⟩
      case measure => simp [intOf]; omega
    · go_wp2
      go_ret
      exact ⟨rfl, hbel⟩

set_option maxHeartbeats 3200000 in
theorem eqRepS_same (A C : Option Addr) (c d : Nat) (xs ys : List Rq) (hxy : ys.map Rq.dat = xs.map Rq.dat) (w : World) (hr : RdK KQ w w.heap.size A xs) (hq : RdK KQ w w.heap.size C ys) (hf : xs.length ≤ 1048576 ∧ ∀ i, i < xs.length → FewQ (xs.getD i zQ)) :
    Calls Tryz.prog 34 #[.slice A xs.length c, .slice C xs.length d] w fun e w' => e = .returned (.bool true) ∧ Below w.heap.size w w' := by
  have hlen := same_len hxy
  have hel : ∀ k, Rq.dat (ys.getD k zQ) = Rq.dat (xs.getD k zQ) := fun k => same_at hxy k
  obtain ⟨hn, hv⟩ := hf
  obtain ⟨n, hvn⟩ : ∃ n, xs.length = n := ⟨_, rfl⟩
  rw [hvn] at hn hv hlen ⊢
  have HVL := Lib.hid hv; clear hv
  have HV := Lib.hid hvn; clear hvn
  have HQ := Lib.hid hlen; clear hlen
  have HE := Lib.hid hel; clear hel hxy
  go_enter Tryz.func34, Tryz.ntmps34
  have hne : ∀ i : Int, (i != i) = false := fun i => by simp
  go_wp2
  go_loopw [5] (fun i wr => ∃ (k : Nat), k ≤ n ∧ i = .int .i64 k ∧ Below w.heap.size w wr) (fun i _ => n - (intOf i).toNat)
  case atStart => exact ⟨0, Nat.zero_le _, rfl, Below.refl _ _⟩
  case round =>
    obtain ⟨k, hk, rfl, hbel⟩ := hrel
    by_cases hlt : k < n
    · obtain ⟨b_, off, rfl, hb, hcs, hrv⟩ := RdK.at_ (hr.below hbel) (k := k) (by rw [HV.out]; omega)
      obtain ⟨b2_, off2, rfl, hb2, hcs2, hrv2⟩ := RdK.at_ (hq.below hbel) (k := k) (by rw [HQ.out]; omega)
      clear hr hq
      have hvl := HVL.out k hlt
      have he := HE.out k
      change ∀ j, j < 14 → wr.cell? ⟨b_, off + k * 14 + j, none⟩ = (KQ.cells (xs.getD k zQ))[j]? at hcs
      change ∀ j, j < 14 → wr.cell? ⟨b2_, off2 + k * 14 + j, none⟩ = (KQ.cells (ys.getD k zQ))[j]? at hcs2
      change KQ.rd wr w.heap.size (xs.getD k zQ) at hrv
      change KQ.rd wr w.heap.size (ys.getD k zQ) at hrv2
      obtain ⟨⟨qn, qid, qown, qview, qleft, qvoted, qlv, qlx, qdn, qpr, qvo, qre, qds, qhs, qAv, qAp, qAo, qAr, qAd, qAh, qcv, qcp, qco, qcr, qcd, qch⟩, hu⟩ : ∃ u, xs.getD k zQ = u := ⟨_, rfl⟩
      obtain ⟨⟨qn2, qid2, qown2, qview2, qleft2, qvoted2, qlv2, qlx2, qdn2, qpr2, qvo2, qre2, qds2, qhs2, qAv2, qAp2, qAo2, qAr2, qAd2, qAh2, qcv2, qcp2, qco2, qcr2, qcd2, qch2⟩, hu2⟩ : ∃ u, ys.getD k zQ = u := ⟨_, rfl⟩
      rw [hu] at hcs hvl hrv he
      rw [hu2] at hcs2 hrv2 he
      clear hu hu2
      have hc0 : wr.cell? ⟨b_, off + k * 14, none⟩ = some (.int .i64 qn) := hcs 0 (by decide)
      have hc1 : wr.cell? ⟨b_, off + k * 14 + 1, none⟩ = some (.int .i64 qid) := hcs 1 (by decide)
      have hc2 : wr.cell? ⟨b_, off + k * 14 + 2, none⟩ = some (.int .i64 qown) := hcs 2 (by decide)
      have hc3 : wr.cell? ⟨b_, off + k * 14 + 3, none⟩ = some (.int .i64 qview) := hcs 3 (by decide)
      have hc4 : wr.cell? ⟨b_, off + k * 14 + 4, none⟩ = some (.int .i64 qleft) := hcs 4 (by decide)
      have hc5 : wr.cell? ⟨b_, off + k * 14 + 5, none⟩ = some (.slice qAv qvoted.length qcv) := hcs 5 (by decide)
      have hc6 : wr.cell? ⟨b_, off + k * 14 + 6, none⟩ = some (.int .i64 qlv) := hcs 6 (by decide)
      have hc7 : wr.cell? ⟨b_, off + k * 14 + 7, none⟩ = some (.int .i64 qlx) := hcs 7 (by decide)
      have hc8 : wr.cell? ⟨b_, off + k * 14 + 8, none⟩ = some (.int .i64 qdn) := hcs 8 (by decide)
      have hc9 : wr.cell? ⟨b_, off + k * 14 + 9, none⟩ = some (.slice qAp qpr.length qcp) := hcs 9 (by decide)
      have hc10 : wr.cell? ⟨b_, off + k * 14 + 10, none⟩ = some (.slice qAo qvo.length qco) := hcs 10 (by decide)
      have hc11 : wr.cell? ⟨b_, off + k * 14 + 11, none⟩ = some (.slice qAr qre.length qcr) := hcs 11 (by decide)
      have hc12 : wr.cell? ⟨b_, off + k * 14 + 12, none⟩ = some (.slice qAd qds.length qcd) := hcs 12 (by decide)
      have hc13 : wr.cell? ⟨b_, off + k * 14 + 13, none⟩ = some (.slice qAh qhs.length qch) := hcs 13 (by decide)
      have hd0 : wr.cell? ⟨b2_, off2 + k * 14, none⟩ = some (.int .i64 qn2) := hcs2 0 (by decide)
      have hd1 : wr.cell? ⟨b2_, off2 + k * 14 + 1, none⟩ = some (.int .i64 qid2) := hcs2 1 (by decide)
      have hd2 : wr.cell? ⟨b2_, off2 + k * 14 + 2, none⟩ = some (.int .i64 qown2) := hcs2 2 (by decide)
      have hd3 : wr.cell? ⟨b2_, off2 + k * 14 + 3, none⟩ = some (.int .i64 qview2) := hcs2 3 (by decide)
      have hd4 : wr.cell? ⟨b2_, off2 + k * 14 + 4, none⟩ = some (.int .i64 qleft2) := hcs2 4 (by decide)
      have hd5 : wr.cell? ⟨b2_, off2 + k * 14 + 5, none⟩ = some (.slice qAv2 qvoted2.length qcv2) := hcs2 5 (by decide)
      have hd6 : wr.cell? ⟨b2_, off2 + k * 14 + 6, none⟩ = some (.int .i64 qlv2) := hcs2 6 (by decide)
      have hd7 : wr.cell? ⟨b2_, off2 + k * 14 + 7, none⟩ = some (.int .i64 qlx2) := hcs2 7 (by decide)
      have hd8 : wr.cell? ⟨b2_, off2 + k * 14 + 8, none⟩ = some (.int .i64 qdn2) := hcs2 8 (by decide)
      have hd9 : wr.cell? ⟨b2_, off2 + k * 14 + 9, none⟩ = some (.slice qAp2 qpr2.length qcp2) := hcs2 9 (by decide)
      have hd10 : wr.cell? ⟨b2_, off2 + k * 14 + 10, none⟩ = some (.slice qAo2 qvo2.length qco2) := hcs2 10 (by decide)
      have hd11 : wr.cell? ⟨b2_, off2 + k * 14 + 11, none⟩ = some (.slice qAr2 qre2.length qcr2) := hcs2 11 (by decide)
      have hd12 : wr.cell? ⟨b2_, off2 + k * 14 + 12, none⟩ = some (.slice qAd2 qds2.length qcd2) := hcs2 12 (by decide)
      have hd13 : wr.cell? ⟨b2_, off2 + k * 14 + 13, none⟩ = some (.slice qAh2 qhs2.length qch2) := hcs2 13 (by decide)
      clear hcs hcs2
      have HR1 := Lib.hid (KQ.more hrv hbel.size); clear hrv
      have HR2 := Lib.hid (KQ.more hrv2 hbel.size); clear hrv2
      have HVV := Lib.hid hvl; clear hvl
      have HCL := Lib.hid (fun (W : World) (h : Below w.heap.size w W) (g1 : RdQ W W.heap.size ⟨qn, qid, qown, qview, qleft, qvoted, qlv, qlx, qdn, qpr, qvo, qre, qds, qhs, qAv, qAp, qAo, qAr, qAd, qAh, qcv, qcp, qco, qcr, qcd, qch⟩) (g2 : RdQ W W.heap.size ⟨qn2, qid2, qown2, qview2, qleft2, qvoted2, qlv2, qlx2, qdn2, qpr2, qvo2, qre2, qds2, qhs2, qAv2, qAp2, qAo2, qAr2, qAd2, qAh2, qcv2, qcp2, qco2, qcr2, qcd2, qch2⟩) => eqRep_same ⟨qn, qid, qown, qview, qleft, qvoted, qlv, qlx, qdn, qpr, qvo, qre, qds, qhs, qAv, qAp, qAo, qAr, qAd, qAh, qcv, qcp, qco, qcr, qcd, qch⟩ ⟨qn2, qid2, qown2, qview2, qleft2, qvoted2, qlv2, qlx2, qdn2, qpr2, qvo2, qre2, qds2, qhs2, qAv2, qAp2, qAo2, qAr2, qAd2, qAh2, qcv2, qcp2, qco2, qcr2, qcd2, qch2⟩ he W g1 g2 HVV.out)
      simp only [Rq.agg, Rq.cells] at HCL
      clear he
      go_wp2
      go_still_tail 8, (by kernel_rfl)
      have hbd : Below w.heap.size w wr.drew := hbel.drew
      have hd1 := Lib.hid (KQ.keep (w' := wr.drew) HR1.out fun _ _ _ => rfl)
      have hd2 := Lib.hid (KQ.keep (w' := wr.drew) HR2.out fun _ _ _ => rfl)
      change wpList _ _ _ _ _ wr.drew
      go_wp2_with fail
      refine (HCL.out wr.drew hbd hd1.out hd2.out).mono ?_
      rintro e w1 ⟨rfl, hb1⟩
      go_wp2
      go_roundw
      case rel => exact ⟨k + 1, by omega, by go_num, hbd.trans (hb1.mono hbd.size)⟩
      case measure => simp [intOf]; omega
    · go_wp2
      go_ret
      exact ⟨rfl, hbel⟩

end Go.Proofs.YtfdfjmibjnmhpaaGreat.V

namespace Go.Proofs.YtfdfjmibjnmhpaaGreat.B
open Go.RowKit
section
variable {α : Type} {K : Knd α} {w w1 : World} {lo lo' : Nat} {A : Option Addr} {xs : List α}
/-- A row that turns on no block below lo, and owns its own. -/
def HiX (K : Knd α) (w : World) (lo : Nat) (A : Option Addr) (xs : List α) : Prop := Hi (fun u Bd => RdK K u Bd A xs) w lo ∧ OwnX K w lo A xs
theorem HiX.on (h : HiX K w lo A xs) (hb : Below w.heap.size w w1) : HiX K w1 lo A xs := ⟨Hi.keep (fun h => RdK.more h) h.1 hb.size fun b o _ h2 => hb.cell (p := ⟨b, o, none⟩) h2, h.2.keep fun g _ h2 => hb.block g h2⟩
theorem HiX.set_ (h : HiX K w lo A xs) {q : Addr} (hp : q.block < lo) (u : Value) : HiX K (w.setCell q u) lo A xs :=
  ⟨Hi.keep (fun h => RdK.more h) h.1 (by simp [World.setCell]) fun b o h1 _ => World.cell?_setCell_other w q ⟨b, o, none⟩ u (fun e => by subst e; simp at hp; omega), h.2.keep fun g h1 _ => Below.heap_setCell w q u g (by omega)⟩
theorem HiX.rd (h : HiX K w lo A xs) : RdK K w w.heap.size A xs := Hi.rd h.1
end
end Go.Proofs.YtfdfjmibjnmhpaaGreat.B
namespace Go.Proofs.YtfdfjmibjnmhpaaGreat.V
open Go.RowKit Go.Proofs.YtfdfjmibjnmhpaaGreat.B

theorem info_Bool : (Tryz.prog.info? 4).map (fun i => (i.zero, i.size, i.bytes)) = some (some (.bool false), 1, 1) := by kernel_rfl
set_option maxHeartbeats 1600000 in
theorem toBoolS_any (A : Option Addr) (c : Nat) (xs : List Bool) (w : World) (hr : RdK KB w w.heap.size A xs) (hn : xs.length ≤ 1048576) :
    Calls Tryz.prog 29 #[.slice A xs.length c] w fun e w' => ∃ g cs qs, e = .returned (.slice (some ⟨g, 0, none⟩) xs.length xs.length) ∧ w.heap.size ≤ g ∧ Blk w' g 4 cs ∧ CpK KB id w' g xs.length cs xs qs xs.length ∧ Below w.heap.size w w' := by
  obtain ⟨i0, hi, hz0, hz1, hz2⟩ := info_parts info_Bool
  have hmk : ∀ u : World, (Instr.makeSlice 22 (.int .i64 (xs.length : Int)) (.int .i64 (xs.length : Int))).run Tryz.prog u =
      .ok (.slice (some ⟨u.heap.size, 0, none⟩) xs.length xs.length) (u.alloc (.cells (madeCells #[.bool false] (xs.length * 1)) 4)) := fun u => by
    have h := run_make_rowN (P := Tryz.prog) 22 4 i0 (.bool false) Tryz.underlying22 hi hz0 .i64 .i64 xs.length xs.length (Nat.le_refl _) (by rw [hz2]; omega) (by omega) u
    rw [h, hz1]; rfl
  clear hz2 hz1 hz0 hi
  obtain ⟨n, hvn⟩ : ∃ n, xs.length = n := ⟨_, rfl⟩
  rw [hvn] at hn hmk ⊢
  go_enter Tryz.func29, Tryz.ntmps29
  go_wp2
  have HV := Lib.hid hvn; clear hvn
  go_loopw [4] (fun i wr => ∃ (k : Nat) (cs : Array Value) (qs : List Bool), k ≤ n ∧ i = .int .i64 k ∧ Blk wr w.heap.size 4 cs ∧ Hid (CpK KB id wr w.heap.size n cs xs qs k) ∧ Below w.heap.size w wr) (fun i _ => n - (intOf i).toNat)
  case atStart => exact ⟨0, _, [], Nat.zero_le _, rfl, Blk.new _ _ _, CpK.zero (by simp [madeCells, KB]), (Below.refl _ _).alloc (Nat.le_refl _) _⟩
  case round =>
    obtain ⟨k, cs, qs, hk, rfl, hblk, hpc, hbel⟩ := hrel
    by_cases hlt : k < n
    · obtain ⟨b_, off, rfl, hb, hcs, hrv⟩ := RdK.at_ (hr.below hbel) (k := k) (by rw [HV.out]; omega)
      clear hr hrv
      have hsz : cs.size = n * 1 := hpc.out.2.2.1
      obtain ⟨x0_, hx0⟩ : ∃ x, cs[k]? = some x := ⟨_, Array.getElem?_eq_getElem (by omega)⟩
      clear hsz
      change ∀ j, j < 1 → wr.cell? ⟨b_, off + k * 1 + j, none⟩ = (KB.cells (xs.getD k false))[j]? at hcs
      obtain ⟨u, hu⟩ : ∃ u, xs.getD k false = u := ⟨_, rfl⟩
      rw [hu] at hcs
      have hc0 : wr.cell? ⟨b_, off + k, none⟩ = some (.bool u) := by have := hcs 0 (by decide); simpa [KB] using this
      clear hcs
      have hf0 := hblk.frozen k
      have hy0 := (hblk.cell k).trans hx0
      have hgl : w.heap.size < wr.heap.size := hblk.lt
      have HC := Lib.hid (CpK.step (w1 := wr) hpc.out hlt HV.out u (by rw [← hu]; rfl) (Below.refl _ _) ⟨fun _ _ => trivial, trivial⟩)
      have hblk2 := Blk.putW (k * 1) (KB.cells u).toList hblk
      have hB2 := Below.putW (g := w.heap.size) (k * 1) (KB.cells u).toList hbel (Nat.le_refl _)
      have e1 : k * 1 = k := Nat.mul_one k
      rw [show k * KB.s = k from Nat.mul_one k] at HC
      rw [e1] at hblk2 hB2
      clear e1 hx0 hu hpc
      have HK2 := Lib.hid hblk2; have HB2 := Lib.hid hB2; clear hblk2 hB2
      go_wp2
      go_roundw
      case rel => exact ⟨k + 1, _, _, by omega, by go_num, HK2.out, HC, HB2.out⟩
      case measure => simp [intOf]; omega
    · go_wp2
      go_ret
      have hkn : k = n := by omega
      subst hkn
      exact ⟨_, cs, qs, rfl, Nat.le_refl _, hblk, hpc.out, hbel⟩

set_option maxHeartbeats 800000 in
theorem eqBoolS_same (A C : Option Addr) (c d : Nat) (xs : List Bool) (w : World) (hr : RdK KB w w.heap.size A xs) (hq : RdK KB w w.heap.size C xs) (hn : xs.length ≤ 1048576) :
    Calls Tryz.prog 33 #[.slice A xs.length c, .slice C xs.length d] w fun e w' => e = .returned (.bool true) ∧ Below w.heap.size w w' := by
  obtain ⟨n, hvn⟩ : ∃ n, xs.length = n := ⟨_, rfl⟩
  rw [hvn] at hn ⊢
  have HV := Lib.hid hvn; clear hvn
  have hnq : ∀ i : Bool, (i != i) = false := fun i => by simp
  go_enter Tryz.func33, Tryz.ntmps33
  go_wp2
  go_loopw [5] (fun i wr => ∃ (k : Nat), k ≤ n ∧ i = .int .i64 k ∧ Below w.heap.size w wr) (fun i _ => n - (intOf i).toNat)
  case atStart => exact ⟨0, Nat.zero_le _, rfl, Below.refl _ _⟩
  case round =>
    obtain ⟨k, hk, rfl, hbel⟩ := hrel
    by_cases hlt : k < n
    · obtain ⟨b_, off, rfl, hb, hcs, hrv⟩ := RdK.at_ (hr.below hbel) (k := k) (by rw [HV.out]; omega)
      obtain ⟨b2_, off2, rfl, hb2, hcs2, hrv2⟩ := RdK.at_ (hq.below hbel) (k := k) (by rw [HV.out]; omega)
      clear hr hq hrv hrv2
      change ∀ j, j < 1 → wr.cell? ⟨b_, off + k * 1 + j, none⟩ = (KB.cells (xs.getD k false))[j]? at hcs
      change ∀ j, j < 1 → wr.cell? ⟨b2_, off2 + k * 1 + j, none⟩ = (KB.cells (xs.getD k false))[j]? at hcs2
      obtain ⟨u, hu⟩ : ∃ u, xs.getD k false = u := ⟨_, rfl⟩
      rw [hu] at hcs hcs2
      have hc0 : wr.cell? ⟨b_, off + k, none⟩ = some (.bool u) := by have := hcs 0 (by decide); simpa [KB] using this
      have hd0 : wr.cell? ⟨b2_, off2 + k, none⟩ = some (.bool u) := by have := hcs2 0 (by decide); simpa [KB] using this
      clear hcs hcs2 hu
      have C0 := fun x : Lat wr => x.cell hc0
      have D0 := fun x : Lat wr => x.cell hd0
      go_wp2
      refine wp_region_lat (by kernel_rfl) (by kernel_rfl) ?_
      repeat (go_big_quiet_step (fail))
      refine wpQuiet_nil ?_
      rintro w3 ⟨⟨_, hb3⟩, rfl⟩
      have hB3 := hbel.trans (hb3.mono hbel.size)
      clear C0 D0 hc0 hd0 hb3
      go_wp2
      go_roundw
      case rel => exact ⟨k + 1, by omega, by go_num, hB3⟩
      case measure => simp [intOf]; omega
    · go_wp2
      go_ret
      exact ⟨rfl, hbel⟩

set_option maxHeartbeats 1600000 in
theorem szCluster_any (q : Cq) (left : Int) (w : World) (hr : RdC4 w w.heap.size q) (hL : LensC q) (h0 : 0 ≤ left) (h1 : left ≤ 1048576) :
    Calls Tryz.prog 7 #[q.agg, .int .i64 left] w fun e w' => e = .returned (.int .i64 (if left < (totC q : Int) then -1 else left - totC q)) ∧ Below w.heap.size w w' := by
  obtain ⟨T, hT⟩ : ∃ T, totC q = T := ⟨_, rfl⟩
  rw [hT]
  obtain ⟨z, hz⟩ : ∃ z : Int, (if left < (T : Int) then -1 else left - T) = z := ⟨_, rfl⟩
  rw [hz]
  have HZ := Lib.hid hz; clear hz
  obtain ⟨n, bad, rs, nt, Ab, Ar, An, cb, cr, cn⟩ := q
  obtain ⟨kb, kr, kn⟩ := hL
  obtain ⟨rb, rr, rn⟩ := hr
  simp only [Cq.agg, Cq.cells, totC] at *
  have H0 := Lib.hid (fun (W : World) => szB1_any Ab bad.length cb left W kb h0 h1)
  have H1 := Lib.hid (fun (W : World) (h : Below w.heap.size w W) (y : Int) (g0 : 0 ≤ y) (g1 : y ≤ 1048576) => szRepS_any Ar cr rs y W ((rr.below h).more h.size) kr g0 g1)
  have H2 := Lib.hid (fun (W : World) (h : Below w.heap.size w W) (y : Int) (g0 : 0 ≤ y) (g1 : y ≤ 1048576) => szMsgSS_any An cn nt y W ((rn.below h).more h.size) kn g0 g1)
  clear kb kr kn rb rr rn
  obtain ⟨tr, etr⟩ : ∃ m, rs.length + tkS tot zQ rs rs.length = m := ⟨_, rfl⟩
  obtain ⟨tn, etn⟩ : ∃ m, nt.length + tkS fL zL nt nt.length = m := ⟨_, rfl⟩
  rw [etr] at H1 hT
  rw [etn] at H2 hT
  obtain ⟨lb, elb⟩ : ∃ m, bad.length = m := ⟨_, rfl⟩
  obtain ⟨lr, elr⟩ : ∃ m, rs.length = m := ⟨_, rfl⟩
  obtain ⟨ln, eln⟩ : ∃ m, nt.length = m := ⟨_, rfl⟩
  simp only [elb, elr, eln] at H0 H1 H2 hT ⊢
  have HT := Lib.hid hT
  clear hT elb elr eln etr etn
  obtain ⟨y1, hy1⟩ : ∃ z : Int, left - lb = z := ⟨_, rfl⟩
  obtain ⟨y2, hy2⟩ : ∃ z : Int, y1 - tr = z := ⟨_, rfl⟩
  obtain ⟨y3, hy3⟩ : ∃ z : Int, y2 - tn = z := ⟨_, rfl⟩
  by_cases k0 : left < (lb : Int)
  · have hc0 := H0.out
    simp only [if_pos k0] at hc0
    have C0 := Lib.hid hc0; clear hc0
    have HY : Hid (z = -1) := by show _ = _; have h3 := HT.out; rw [← HZ.out]; exact if_pos (by omega)
    have ka := Blk.new w 26 #[.int .i64 n, .slice Ab lb cb, .slice Ar lr cr, .slice An ln cn]
    have hB := up_ (Below.refl w.heap.size w) (.cells #[.int .i64 n, .slice Ab lb cb, .slice Ar lr cr, .slice An ln cn] 26)
    have ra := ka.rule
    go_enter Tryz.func7, Tryz.ntmps7
    go_wp2_with fail
    refine (C0.out _).mono ?_
    rintro e v0 ⟨rfl, hb⟩
    have ka' := ka.on hb; have hB' := on_ hB hb; clear ka hB ra hb; have ka := ka'; have hB := hB'; clear ka' hB'; have ra := ka.rule
    go_wp2
    go_ret
    exact ⟨ret_int2 HY.out.symm, hB⟩
  · skip
    by_cases k1 : y1 < (tr : Int)
    · have hc0 := H0.out
      simp only [if_neg k0, hy1] at hc0
      have C0 := Lib.hid hc0; clear hc0
      have hc1 := fun W h => H1.out W h y1 (by omega) (by omega)
      simp only [if_pos k1] at hc1
      have C1 := Lib.hid hc1; clear hc1
      have n1 : ¬ y1 < 0 := by omega
      have HY : Hid (z = -1) := by show _ = _; have h3 := HT.out; rw [← HZ.out]; exact if_pos (by omega)
      have ka := Blk.new w 26 #[.int .i64 n, .slice Ab lb cb, .slice Ar lr cr, .slice An ln cn]
      have hB := up_ (Below.refl w.heap.size w) (.cells #[.int .i64 n, .slice Ab lb cb, .slice Ar lr cr, .slice An ln cn] 26)
      have ra := ka.rule
      go_enter Tryz.func7, Tryz.ntmps7
      go_wp2_with fail
      refine (C0.out _).mono ?_
      rintro e v0 ⟨rfl, hb⟩
      have ka' := ka.on hb; have hB' := on_ hB hb; clear ka hB ra hb; have ka := ka'; have hB := hB'; clear ka' hB'; have ra := ka.rule
      go_wp2_with fail
      refine (C1.out _ hB).mono ?_
      rintro e v1 ⟨rfl, hb⟩
      have ka' := ka.on hb; have hB' := on_ hB hb; clear ka hB ra hb; have ka := ka'; have hB := hB'; clear ka' hB'; have ra := ka.rule
      go_wp2
      go_ret
      exact ⟨ret_int2 HY.out.symm, hB⟩
    · skip
      by_cases k2 : y2 < (tn : Int)
      · have hc0 := H0.out
        simp only [if_neg k0, hy1] at hc0
        have C0 := Lib.hid hc0; clear hc0
        have hc1 := fun W h => H1.out W h y1 (by omega) (by omega)
        simp only [if_neg k1, hy2] at hc1
        have C1 := Lib.hid hc1; clear hc1
        have hc2 := fun W h => H2.out W h y2 (by omega) (by omega)
        simp only [if_pos k2] at hc2
        have C2 := Lib.hid hc2; clear hc2
        have n1 : ¬ y1 < 0 := by omega
        have n2 : ¬ y2 < 0 := by omega
        have HY : Hid (z = -1) := by show _ = _; have h3 := HT.out; rw [← HZ.out]; exact if_pos (by omega)
        have ka := Blk.new w 26 #[.int .i64 n, .slice Ab lb cb, .slice Ar lr cr, .slice An ln cn]
        have hB := up_ (Below.refl w.heap.size w) (.cells #[.int .i64 n, .slice Ab lb cb, .slice Ar lr cr, .slice An ln cn] 26)
        have ra := ka.rule
        go_enter Tryz.func7, Tryz.ntmps7
        go_wp2_with fail
        refine (C0.out _).mono ?_
        rintro e v0 ⟨rfl, hb⟩
        have ka' := ka.on hb; have hB' := on_ hB hb; clear ka hB ra hb; have ka := ka'; have hB := hB'; clear ka' hB'; have ra := ka.rule
        go_wp2_with fail
        refine (C1.out _ hB).mono ?_
        rintro e v1 ⟨rfl, hb⟩
        have ka' := ka.on hb; have hB' := on_ hB hb; clear ka hB ra hb; have ka := ka'; have hB := hB'; clear ka' hB'; have ra := ka.rule
        go_wp2_with fail
        refine (C2.out _ hB).mono ?_
        rintro e v2 ⟨rfl, hb⟩
        have ka' := ka.on hb; have hB' := on_ hB hb; clear ka hB ra hb; have ka := ka'; have hB := hB'; clear ka' hB'; have ra := ka.rule
        go_wp2
        go_ret
        exact ⟨ret_int2 HY.out.symm, hB⟩
      · skip
        have hc0 := H0.out
        simp only [if_neg k0, hy1] at hc0
        have C0 := Lib.hid hc0; clear hc0
        have hc1 := fun W h => H1.out W h y1 (by omega) (by omega)
        simp only [if_neg k1, hy2] at hc1
        have C1 := Lib.hid hc1; clear hc1
        have hc2 := fun W h => H2.out W h y2 (by omega) (by omega)
        simp only [if_neg k2, hy3] at hc2
        have C2 := Lib.hid hc2; clear hc2
        have n1 : ¬ y1 < 0 := by omega
        have n2 : ¬ y2 < 0 := by omega
        have n3 : ¬ y3 < 0 := by omega
        have HY : Hid (z = y3) := by show _ = _; have h3 := HT.out; rw [← HZ.out]; rw [if_neg (by omega)]; omega
        have ka := Blk.new w 26 #[.int .i64 n, .slice Ab lb cb, .slice Ar lr cr, .slice An ln cn]
        have hB := up_ (Below.refl w.heap.size w) (.cells #[.int .i64 n, .slice Ab lb cb, .slice Ar lr cr, .slice An ln cn] 26)
        have ra := ka.rule
        go_enter Tryz.func7, Tryz.ntmps7
        go_wp2_with fail
        refine (C0.out _).mono ?_
        rintro e v0 ⟨rfl, hb⟩
        have ka' := ka.on hb; have hB' := on_ hB hb; clear ka hB ra hb; have ka := ka'; have hB := hB'; clear ka' hB'; have ra := ka.rule
        go_wp2_with fail
        refine (C1.out _ hB).mono ?_
        rintro e v1 ⟨rfl, hb⟩
        have ka' := ka.on hb; have hB' := on_ hB hb; clear ka hB ra hb; have ka := ka'; have hB := hB'; clear ka' hB'; have ra := ka.rule
        go_wp2_with fail
        refine (C2.out _ hB).mono ?_
        rintro e v2 ⟨rfl, hb⟩
        have ka' := ka.on hb; have hB' := on_ hB hb; clear ka hB ra hb; have ka := ka'; have hB := hB'; clear ka' hB'; have ra := ka.rule
        go_wp2
        go_ret
        exact ⟨ret_int2 HY.out.symm, hB⟩

/-- A cluster's rows are its own, from lo on. -/
structure OwnC (w : World) (lo : Nat) (q : Cq) : Prop where
  b : OwnX KB w lo q.Ab q.bad
  r : OwnX KQ w lo q.Ar q.rs
  n : OwnX KL w lo q.An q.nt
theorem OwnC.keep {w w' : World} {lo : Nat} {q : Cq} (h : OwnC w lo q) (hk : ∀ g, lo ≤ g → g < w.heap.size → w'.heap[g]? = w.heap[g]?) : OwnC w' lo q := ⟨h.b.keep hk, h.r.keep hk, h.n.keep hk⟩
theorem OwnC.low {w : World} {lo lo' : Nat} {q : Cq} (h : OwnC w lo q) (hl : lo' ≤ lo) : OwnC w lo' q := ⟨h.b.low hl, h.r.low hl, h.n.low hl⟩
set_option maxHeartbeats 3200000 in
theorem toCluster_own (q : Cq) (w : World) (hr : RdC4 w w.heap.size q) (hf : FewC q) :
    Calls Tryz.prog 9 #[q.agg] w fun e w' => ∃ p : Cq, e = .returned p.agg ∧ p.dat = q.dat ∧ (RdC4 w' w'.heap.size p ∧ OwnC w' w.heap.size p) ∧ Below w.heap.size w w' := by
  obtain ⟨n, bad, rs, nt, Ab, Ar, An, cb, cr, cn⟩ := q
  obtain ⟨rb, rr, rn⟩ := hr
  obtain ⟨fb, fr, fn⟩ := hf
  simp only [Cq.agg, Cq.cells] at *
  have HB0 := Lib.hid (fun (W : World) (h : Below w.heap.size w W) => toBoolS_any Ab cb bad W ((rb.below h).more h.size) fb)
  have HR0 := Lib.hid (fun (W : World) (h : Below w.heap.size w W) => toRepS_any Ar cr rs W ((rr.below h).more h.size) fr)
  have HN0 := Lib.hid (fun (W : World) (h : Below w.heap.size w W) => toMsgSS_any An cn nt W ((rn.below h).more h.size) fn)
  clear rb rr rn fb fr fn
  obtain ⟨lb, elb⟩ : ∃ m, bad.length = m := ⟨_, rfl⟩
  obtain ⟨lr, elr⟩ : ∃ m, rs.length = m := ⟨_, rfl⟩
  obtain ⟨ln, eln⟩ : ∃ m, nt.length = m := ⟨_, rfl⟩
  simp only [elb, elr, eln] at HB0 HR0 HN0 ⊢
  have EB := Lib.hid elb; have ER := Lib.hid elr; have EN := Lib.hid eln; clear elb elr eln
  go_enter Tryz.func9, Tryz.ntmps9
  have ka := ((Blk.new w 26 #[.int .i64 n, .slice Ab lb cb, .slice Ar lr cr, .slice An ln cn]).alloc (.cells #[.int .i64 0, .slice none 0 0, .slice none 0 0, .slice none 0 0] 33)).alloc (.cells #[.int .i64 n, .slice none 0 0, .slice none 0 0, .slice none 0 0] 33)
  have kr := (Blk.new (w.alloc (.cells #[.int .i64 n, .slice Ab lb cb, .slice Ar lr cr, .slice An ln cn] 26)) 33 #[.int .i64 0, .slice none 0 0, .slice none 0 0, .slice none 0 0]).alloc (.cells #[.int .i64 n, .slice none 0 0, .slice none 0 0, .slice none 0 0] 33)
  have ko := Blk.new ((w.alloc (.cells #[.int .i64 n, .slice Ab lb cb, .slice Ar lr cr, .slice An ln cn] 26)).alloc (.cells #[.int .i64 0, .slice none 0 0, .slice none 0 0, .slice none 0 0] 33)) 33 #[.int .i64 n, .slice none 0 0, .slice none 0 0, .slice none 0 0]
  have hB : Below w.heap.size w (((w.alloc (.cells #[.int .i64 n, .slice Ab lb cb, .slice Ar lr cr, .slice An ln cn] 26)).alloc (.cells #[.int .i64 0, .slice none 0 0, .slice none 0 0, .slice none 0 0] 33)).alloc (.cells #[.int .i64 n, .slice none 0 0, .slice none 0 0, .slice none 0 0] 33)) := up_ (up_ (up_ (Below.refl w.heap.size w) _) _) _
  have hz : w.heap.size + 3 ≤ (((w.alloc (.cells #[.int .i64 n, .slice Ab lb cb, .slice Ar lr cr, .slice An ln cn] 26)).alloc (.cells #[.int .i64 0, .slice none 0 0, .slice none 0 0, .slice none 0 0] 33)).alloc (.cells #[.int .i64 n, .slice none 0 0, .slice none 0 0, .slice none 0 0] 33)).heap.size := by simp
  simp only [World.size_alloc] at ko kr
  have ra := ka.rule
  go_wp2_with fail
  refine (HB0.out _ hB).mono ?_
  rintro e w1 ⟨gb, csb, qb, rfl, hgb, bb, hpb, hb⟩
  have ka' := ka.on hb; have kr' := kr.on hb; have ko' := ko.on hb; have hB' := on_ hB hb; have hz1 := hb.size
  have hz' : w.heap.size + 3 ≤ w1.heap.size := by omega
  have hgeb : w.heap.size + 3 ≤ gb := by omega
  have hXb : HiX KB w1 (w.heap.size + 3) (some ⟨gb, 0, none⟩) qb := ⟨hpb.hi bb hgeb, hpb.own bb hgeb⟩
  have HSb := Lib.hid (hpb.same EB.out); have HLb := Lib.hid hpb.1; clear hpb bb hgb
  clear hb ka kr ko hB hz hz1 ra
  have ka := ka'; have kr := kr'; have ko := ko'; have hB := hB'; have hz := hz'; clear ka' kr' ko' hB' hz'
  have ro := ko.rule; have fo := fun i => ko.frozen i; have ra := ka.rule
  have ko2 : Blk (w1.setCell ⟨w.heap.size + 1 + 1, 1, none⟩ (.slice (some ⟨gb, 0, none⟩) lb lb)) (w.heap.size + 1 + 1) 33 #[.int .i64 n, .slice (some ⟨gb, 0, none⟩) lb lb, .slice none 0 0, .slice none 0 0] := ko.set_ 1 _
  have kr2 := kr.far (p := ⟨w.heap.size + 1 + 1, 1, none⟩) (by simp) (.slice (some ⟨gb, 0, none⟩) lb lb)
  have ka2 := ka.far (p := ⟨w.heap.size + 1 + 1, 1, none⟩) (by simp; omega) (.slice (some ⟨gb, 0, none⟩) lb lb)
  have hXb2 := hXb.set_ (q := ⟨w.heap.size + 1 + 1, 1, none⟩) (by simp) (.slice (some ⟨gb, 0, none⟩) lb lb)
  have hB2 : Below w.heap.size w (w1.setCell ⟨w.heap.size + 1 + 1, 1, none⟩ (.slice (some ⟨gb, 0, none⟩) lb lb)) := hB.setCell (by simp; omega) _
  have hz2 : w.heap.size + 3 ≤ (w1.setCell ⟨w.heap.size + 1 + 1, 1, none⟩ (.slice (some ⟨gb, 0, none⟩) lb lb)).heap.size := Nat.le_trans hz (by simp [World.setCell])
  clear ka kr ko hB hz
  have ka := ka2; have kr := kr2; have ko := ko2; have hB := hB2; have hz := hz2; clear ka2 kr2 ko2 hB2 hz2
  clear hXb; have hXb := hXb2; clear hXb2
  have ra1 := ka.rule; have ro1 := ko.rule; have fo1 := fun i => ko.frozen i
  go_wp2_with fail
  clear ro fo ra
  refine (HR0.out _ hB).mono ?_
  rintro e w2 ⟨gr, csr, qr, rfl, hgr, br, hpr, hb⟩
  have ka' := ka.on hb; have kr' := kr.on hb; have ko' := ko.on hb; have hB' := on_ hB hb; have hz1 := hb.size
  have hXb' := hXb.on hb; clear hXb; have hXb := hXb'; clear hXb'
  have hz' : w.heap.size + 3 ≤ w2.heap.size := by omega
  have hger : w.heap.size + 3 ≤ gr := by omega
  have hXr : HiX KQ w2 (w.heap.size + 3) (some ⟨gr, 0, none⟩) qr := ⟨hpr.hi br hger, hpr.own br hger⟩
  have HSr := Lib.hid (hpr.same ER.out); have HLr := Lib.hid hpr.1; clear hpr br hgr
  clear hb ka kr ko hB hz hz1 ra1 ro1 fo1
  have ka := ka'; have kr := kr'; have ko := ko'; have hB := hB'; have hz := hz'; clear ka' kr' ko' hB' hz'
  have ro := ko.rule; have fo := fun i => ko.frozen i; have ra := ka.rule
  have ko2 : Blk (w2.setCell ⟨w.heap.size + 1 + 1, 2, none⟩ (.slice (some ⟨gr, 0, none⟩) lr lr)) (w.heap.size + 1 + 1) 33 #[.int .i64 n, .slice (some ⟨gb, 0, none⟩) lb lb, .slice (some ⟨gr, 0, none⟩) lr lr, .slice none 0 0] := ko.set_ 2 _
  have kr2 := kr.far (p := ⟨w.heap.size + 1 + 1, 2, none⟩) (by simp) (.slice (some ⟨gr, 0, none⟩) lr lr)
  have ka2 := ka.far (p := ⟨w.heap.size + 1 + 1, 2, none⟩) (by simp; omega) (.slice (some ⟨gr, 0, none⟩) lr lr)
  have hXb2 := hXb.set_ (q := ⟨w.heap.size + 1 + 1, 2, none⟩) (by simp) (.slice (some ⟨gr, 0, none⟩) lr lr)
  have hXr2 := hXr.set_ (q := ⟨w.heap.size + 1 + 1, 2, none⟩) (by simp) (.slice (some ⟨gr, 0, none⟩) lr lr)
  have hB2 : Below w.heap.size w (w2.setCell ⟨w.heap.size + 1 + 1, 2, none⟩ (.slice (some ⟨gr, 0, none⟩) lr lr)) := hB.setCell (by simp; omega) _
  have hz2 : w.heap.size + 3 ≤ (w2.setCell ⟨w.heap.size + 1 + 1, 2, none⟩ (.slice (some ⟨gr, 0, none⟩) lr lr)).heap.size := Nat.le_trans hz (by simp [World.setCell])
  clear ka kr ko hB hz
  have ka := ka2; have kr := kr2; have ko := ko2; have hB := hB2; have hz := hz2; clear ka2 kr2 ko2 hB2 hz2
  clear hXb; have hXb := hXb2; clear hXb2
  clear hXr; have hXr := hXr2; clear hXr2
  have ra2 := ka.rule; have ro2 := ko.rule; have fo2 := fun i => ko.frozen i
  go_wp2_with fail
  clear ro fo ra
  refine (HN0.out _ hB).mono ?_
  rintro e w3 ⟨gn, csn, qn, rfl, hgn, bn, hpn, hb⟩
  have ka' := ka.on hb; have kr' := kr.on hb; have ko' := ko.on hb; have hB' := on_ hB hb; have hz1 := hb.size
  have hXb' := hXb.on hb; clear hXb; have hXb := hXb'; clear hXb'
  have hXr' := hXr.on hb; clear hXr; have hXr := hXr'; clear hXr'
  have hz' : w.heap.size + 3 ≤ w3.heap.size := by omega
  have hgen : w.heap.size + 3 ≤ gn := by omega
  have hXn : HiX KL w3 (w.heap.size + 3) (some ⟨gn, 0, none⟩) qn := ⟨hpn.hi bn hgen, hpn.own bn hgen⟩
  have HSn := Lib.hid (hpn.same EN.out); have HLn := Lib.hid hpn.1; clear hpn bn hgn
  clear hb ka kr ko hB hz hz1 ra2 ro2 fo2
  have ka := ka'; have kr := kr'; have ko := ko'; have hB := hB'; have hz := hz'; clear ka' kr' ko' hB' hz'
  have ro := ko.rule; have fo := fun i => ko.frozen i; have ra := ka.rule
  have ko2 : Blk (w3.setCell ⟨w.heap.size + 1 + 1, 3, none⟩ (.slice (some ⟨gn, 0, none⟩) ln ln)) (w.heap.size + 1 + 1) 33 #[.int .i64 n, .slice (some ⟨gb, 0, none⟩) lb lb, .slice (some ⟨gr, 0, none⟩) lr lr, .slice (some ⟨gn, 0, none⟩) ln ln] := ko.set_ 3 _
  have kr2 := kr.far (p := ⟨w.heap.size + 1 + 1, 3, none⟩) (by simp) (.slice (some ⟨gn, 0, none⟩) ln ln)
  have ka2 := ka.far (p := ⟨w.heap.size + 1 + 1, 3, none⟩) (by simp; omega) (.slice (some ⟨gn, 0, none⟩) ln ln)
  have hXb2 := hXb.set_ (q := ⟨w.heap.size + 1 + 1, 3, none⟩) (by simp) (.slice (some ⟨gn, 0, none⟩) ln ln)
  have hXr2 := hXr.set_ (q := ⟨w.heap.size + 1 + 1, 3, none⟩) (by simp) (.slice (some ⟨gn, 0, none⟩) ln ln)
  have hXn2 := hXn.set_ (q := ⟨w.heap.size + 1 + 1, 3, none⟩) (by simp) (.slice (some ⟨gn, 0, none⟩) ln ln)
  have hB2 : Below w.heap.size w (w3.setCell ⟨w.heap.size + 1 + 1, 3, none⟩ (.slice (some ⟨gn, 0, none⟩) ln ln)) := hB.setCell (by simp; omega) _
  have hz2 : w.heap.size + 3 ≤ (w3.setCell ⟨w.heap.size + 1 + 1, 3, none⟩ (.slice (some ⟨gn, 0, none⟩) ln ln)).heap.size := Nat.le_trans hz (by simp [World.setCell])
  clear ka kr ko hB hz
  have ka := ka2; have kr := kr2; have ko := ko2; have hB := hB2; have hz := hz2; clear ka2 kr2 ko2 hB2 hz2
  clear hXb; have hXb := hXb2; clear hXb2
  clear hXr; have hXr := hXr2; clear hXr2
  clear hXn; have hXn := hXn2; clear hXn2
  have ra3 := ka.rule; have ro3 := ko.rule; have fo3 := fun i => ko.frozen i
  have kr2 : Blk ((w3.setCell ⟨w.heap.size + 1 + 1, 3, none⟩ (.slice (some ⟨gn, 0, none⟩) ln ln)).setCell ⟨w.heap.size + 1, 0, none⟩ (.int .i64 n)) (w.heap.size + 1) 33 #[.int .i64 n, .slice none 0 0, .slice none 0 0, .slice none 0 0] := kr.set_ 0 _
  have rr0 := kr.rule; have fr0 := fun i => kr.frozen i
  have hB2 : Below w.heap.size w ((w3.setCell ⟨w.heap.size + 1 + 1, 3, none⟩ (.slice (some ⟨gn, 0, none⟩) ln ln)).setCell ⟨w.heap.size + 1, 0, none⟩ (.int .i64 n)) := hB.setCell (by simp) _
  have hXb2 := hXb.set_ (q := ⟨w.heap.size + 1, 0, none⟩) (by simp) (.int .i64 n)
  have hXr2 := hXr.set_ (q := ⟨w.heap.size + 1, 0, none⟩) (by simp) (.int .i64 n)
  have hXn2 := hXn.set_ (q := ⟨w.heap.size + 1, 0, none⟩) (by simp) (.int .i64 n)
  clear kr hB; have kr := kr2; have hB := hB2; clear kr2 hB2
  clear hXb; have hXb := hXb2; clear hXb2
  clear hXr; have hXr := hXr2; clear hXr2
  clear hXn; have hXn := hXn2; clear hXn2
  have kr2 : Blk (((w3.setCell ⟨w.heap.size + 1 + 1, 3, none⟩ (.slice (some ⟨gn, 0, none⟩) ln ln)).setCell ⟨w.heap.size + 1, 0, none⟩ (.int .i64 n)).setCell ⟨w.heap.size + 1, 1, none⟩ (.slice (some ⟨gb, 0, none⟩) lb lb)) (w.heap.size + 1) 33 #[.int .i64 n, .slice (some ⟨gb, 0, none⟩) lb lb, .slice none 0 0, .slice none 0 0] := kr.set_ 1 _
  have rr1 := kr.rule; have fr1 := fun i => kr.frozen i
  have hB2 : Below w.heap.size w (((w3.setCell ⟨w.heap.size + 1 + 1, 3, none⟩ (.slice (some ⟨gn, 0, none⟩) ln ln)).setCell ⟨w.heap.size + 1, 0, none⟩ (.int .i64 n)).setCell ⟨w.heap.size + 1, 1, none⟩ (.slice (some ⟨gb, 0, none⟩) lb lb)) := hB.setCell (by simp) _
  have hXb2 := hXb.set_ (q := ⟨w.heap.size + 1, 1, none⟩) (by simp) (.slice (some ⟨gb, 0, none⟩) lb lb)
  have hXr2 := hXr.set_ (q := ⟨w.heap.size + 1, 1, none⟩) (by simp) (.slice (some ⟨gb, 0, none⟩) lb lb)
  have hXn2 := hXn.set_ (q := ⟨w.heap.size + 1, 1, none⟩) (by simp) (.slice (some ⟨gb, 0, none⟩) lb lb)
  clear kr hB; have kr := kr2; have hB := hB2; clear kr2 hB2
  clear hXb; have hXb := hXb2; clear hXb2
  clear hXr; have hXr := hXr2; clear hXr2
  clear hXn; have hXn := hXn2; clear hXn2
  have kr2 : Blk ((((w3.setCell ⟨w.heap.size + 1 + 1, 3, none⟩ (.slice (some ⟨gn, 0, none⟩) ln ln)).setCell ⟨w.heap.size + 1, 0, none⟩ (.int .i64 n)).setCell ⟨w.heap.size + 1, 1, none⟩ (.slice (some ⟨gb, 0, none⟩) lb lb)).setCell ⟨w.heap.size + 1, 2, none⟩ (.slice (some ⟨gr, 0, none⟩) lr lr)) (w.heap.size + 1) 33 #[.int .i64 n, .slice (some ⟨gb, 0, none⟩) lb lb, .slice (some ⟨gr, 0, none⟩) lr lr, .slice none 0 0] := kr.set_ 2 _
  have rr2 := kr.rule; have fr2 := fun i => kr.frozen i
  have hB2 : Below w.heap.size w ((((w3.setCell ⟨w.heap.size + 1 + 1, 3, none⟩ (.slice (some ⟨gn, 0, none⟩) ln ln)).setCell ⟨w.heap.size + 1, 0, none⟩ (.int .i64 n)).setCell ⟨w.heap.size + 1, 1, none⟩ (.slice (some ⟨gb, 0, none⟩) lb lb)).setCell ⟨w.heap.size + 1, 2, none⟩ (.slice (some ⟨gr, 0, none⟩) lr lr)) := hB.setCell (by simp) _
  have hXb2 := hXb.set_ (q := ⟨w.heap.size + 1, 2, none⟩) (by simp) (.slice (some ⟨gr, 0, none⟩) lr lr)
  have hXr2 := hXr.set_ (q := ⟨w.heap.size + 1, 2, none⟩) (by simp) (.slice (some ⟨gr, 0, none⟩) lr lr)
  have hXn2 := hXn.set_ (q := ⟨w.heap.size + 1, 2, none⟩) (by simp) (.slice (some ⟨gr, 0, none⟩) lr lr)
  clear kr hB; have kr := kr2; have hB := hB2; clear kr2 hB2
  clear hXb; have hXb := hXb2; clear hXb2
  clear hXr; have hXr := hXr2; clear hXr2
  clear hXn; have hXn := hXn2; clear hXn2
  have kr2 : Blk (((((w3.setCell ⟨w.heap.size + 1 + 1, 3, none⟩ (.slice (some ⟨gn, 0, none⟩) ln ln)).setCell ⟨w.heap.size + 1, 0, none⟩ (.int .i64 n)).setCell ⟨w.heap.size + 1, 1, none⟩ (.slice (some ⟨gb, 0, none⟩) lb lb)).setCell ⟨w.heap.size + 1, 2, none⟩ (.slice (some ⟨gr, 0, none⟩) lr lr)).setCell ⟨w.heap.size + 1, 3, none⟩ (.slice (some ⟨gn, 0, none⟩) ln ln)) (w.heap.size + 1) 33 #[.int .i64 n, .slice (some ⟨gb, 0, none⟩) lb lb, .slice (some ⟨gr, 0, none⟩) lr lr, .slice (some ⟨gn, 0, none⟩) ln ln] := kr.set_ 3 _
  have rr3 := kr.rule; have fr3 := fun i => kr.frozen i
  have hB2 : Below w.heap.size w (((((w3.setCell ⟨w.heap.size + 1 + 1, 3, none⟩ (.slice (some ⟨gn, 0, none⟩) ln ln)).setCell ⟨w.heap.size + 1, 0, none⟩ (.int .i64 n)).setCell ⟨w.heap.size + 1, 1, none⟩ (.slice (some ⟨gb, 0, none⟩) lb lb)).setCell ⟨w.heap.size + 1, 2, none⟩ (.slice (some ⟨gr, 0, none⟩) lr lr)).setCell ⟨w.heap.size + 1, 3, none⟩ (.slice (some ⟨gn, 0, none⟩) ln ln)) := hB.setCell (by simp) _
  have hXb2 := hXb.set_ (q := ⟨w.heap.size + 1, 3, none⟩) (by simp) (.slice (some ⟨gn, 0, none⟩) ln ln)
  have hXr2 := hXr.set_ (q := ⟨w.heap.size + 1, 3, none⟩) (by simp) (.slice (some ⟨gn, 0, none⟩) ln ln)
  have hXn2 := hXn.set_ (q := ⟨w.heap.size + 1, 3, none⟩) (by simp) (.slice (some ⟨gn, 0, none⟩) ln ln)
  clear kr hB; have kr := kr2; have hB := hB2; clear kr2 hB2
  clear hXb; have hXb := hXb2; clear hXb2
  clear hXr; have hXr := hXr2; clear hXr2
  clear hXn; have hXn := hXn2; clear hXn2
  have rr4 := kr.rule
  have HB := Lib.hid hB; clear hB
  have HXb := Lib.hid hXb; clear hXb
  have HXr := Lib.hid hXr; clear hXr
  have HXn := Lib.hid hXn; clear hXn
  go_wp2
  refine bodyPost_ret (v := .agg #[.int .i64 n, .slice (some ⟨gb, 0, none⟩) lb lb, .slice (some ⟨gr, 0, none⟩) lr lr, .slice (some ⟨gn, 0, none⟩) ln ln]) (by simp [results, Tryz.results9, go_sem, rr4]) rfl ⟨⟨n, bad, qr, qn, some ⟨gb, 0, none⟩, some ⟨gr, 0, none⟩, some ⟨gn, 0, none⟩, lb, lr, ln⟩, ?_, ?_, ?_, HB.out⟩
  · simp only [EB.out, HLr.out, HLn.out]
  · simp only [Cq.dat, HSr.out, HSn.out]
  · have hbb : qb = bad := by have := HSb.out; simpa using this
    have h1 := HXb.out.rd
    rw [hbb] at h1
    have h2 := HXb.out.2
    rw [hbb] at h2
    exact ⟨⟨h1, HXr.out.rd, HXn.out.rd⟩, ⟨h2.low (by omega), HXr.out.2.low (by omega), HXn.out.2.low (by omega)⟩⟩
theorem toCluster_any (q : Cq) (w : World) (hr : RdC4 w w.heap.size q) (hf : FewC q) :
    Calls Tryz.prog 9 #[q.agg] w fun e w' => ∃ p : Cq, e = .returned p.agg ∧ p.dat = q.dat ∧ RdC4 w' w'.heap.size p ∧ Below w.heap.size w w' :=
  (toCluster_own q w hr hf).mono fun e w' ⟨p, he, hd, hr, hb⟩ => ⟨p, he, hd, hr.1, hb⟩

set_option maxHeartbeats 1600000 in
theorem eqCluster_same (p q : Cq) (hpq : q.dat = p.dat) (w : World) (hp : RdC4 w w.heap.size p) (hq : RdC4 w w.heap.size q) (hf : FewC p) :
    Calls Tryz.prog 12 #[p.agg, q.agg] w fun e w' => e = .returned (.bool true) ∧ Below w.heap.size w w' := by
  obtain ⟨n, bad, rs, nt, Ab, Ar, An, Acb, Acr, Acn⟩ := p
  obtain ⟨n', bad', rs', nt', Bb, Br, Bn, Bcb, Bcr, Bcn⟩ := q
  replace hpq := hpq.symm
  simp only [Cq.dat, Cd.mk.injEq] at hpq
  obtain ⟨rfl, rfl, hrs, hnt⟩ := hpq
  replace hrs := hrs.symm
  replace hnt := hnt.symm
  obtain ⟨rb, rr, rn⟩ := hp
  obtain ⟨sb, sr, sn⟩ := hq
  obtain ⟨fb, fr, fn⟩ := hf
  simp only [Cq.agg, Cq.cells] at *
  have H0 := Lib.hid (fun (W : World) (h : Below w.heap.size w W) => eqBoolS_same Ab Bb Acb Bcb bad W ((rb.below h).more h.size) ((sb.below h).more h.size) fb)
  have H1 := Lib.hid (fun (W : World) (h : Below w.heap.size w W) => eqRepS_same Ar Br Acr Bcr rs rs' hrs W ((rr.below h).more h.size) ((sr.below h).more h.size) fr)
  have H2 := Lib.hid (fun (W : World) (h : Below w.heap.size w W) => eqMsgSS_same An Bn Acn Bcn nt nt' hnt W ((rn.below h).more h.size) ((sn.below h).more h.size) fn)
  have e1 := same_len hrs
  have e2 := same_len hnt
  rw [e1, e2]
  clear rb rr rn sb sr sn fb fr fn hrs hnt e1 e2
  obtain ⟨lb, elb⟩ : ∃ m, bad.length = m := ⟨_, rfl⟩
  obtain ⟨lr, elr⟩ : ∃ m, rs.length = m := ⟨_, rfl⟩
  obtain ⟨ln, eln⟩ : ∃ m, nt.length = m := ⟨_, rfl⟩
  simp only [elb, elr, eln] at H0 H1 H2 ⊢
  clear elb elr eln
  have hne : ∀ i : Int, (i != i) = false := fun i => by simp
  go_enter Tryz.func12, Tryz.ntmps12
  have ka := (Blk.new w 33 #[.int .i64 n, .slice Ab lb Acb, .slice Ar lr Acr, .slice An ln Acn]).alloc (.cells #[.int .i64 n, .slice Bb lb Bcb, .slice Br lr Bcr, .slice Bn ln Bcn] 33)
  have kb := Blk.new (w.alloc (.cells #[.int .i64 n, .slice Ab lb Acb, .slice Ar lr Acr, .slice An ln Acn] 33)) 33 #[.int .i64 n, .slice Bb lb Bcb, .slice Br lr Bcr, .slice Bn ln Bcn]
  simp only [World.size_alloc] at kb
  have hB := up_ (up_ (Below.refl w.heap.size w) (.cells #[.int .i64 n, .slice Ab lb Acb, .slice Ar lr Acr, .slice An ln Acn] 33)) (.cells #[.int .i64 n, .slice Bb lb Bcb, .slice Br lr Bcr, .slice Bn ln Bcn] 33)
  have ra := ka.rule; have rb := kb.rule
  go_wp2_with fail
  refine (H0.out _ hB).mono ?_
  rintro e w0 ⟨rfl, hb⟩
  have ka' := ka.on hb; have kb' := kb.on hb; have hB' := on_ hB hb
  clear ka kb hB ra rb hb; have ka := ka'; have kb := kb'; have hB := hB'; clear ka' kb' hB'
  have ra := ka.rule; have rb := kb.rule
  go_wp2_with fail
  refine (H1.out _ hB).mono ?_
  rintro e w1 ⟨rfl, hb⟩
  have ka' := ka.on hb; have kb' := kb.on hb; have hB' := on_ hB hb
  clear ka kb hB ra rb hb; have ka := ka'; have kb := kb'; have hB := hB'; clear ka' kb' hB'
  have ra := ka.rule; have rb := kb.rule
  go_wp2_with fail
  refine (H2.out _ hB).mono ?_
  rintro e w2 ⟨rfl, hb⟩
  have ka' := ka.on hb; have kb' := kb.on hb; have hB' := on_ hB hb
  clear ka kb hB ra rb hb; have ka := ka'; have kb := kb'; have hB := hB'; clear ka' kb' hB'
  have ra := ka.rule; have rb := kb.rule
  go_wp2
  go_ret
  exact ⟨rfl, hB⟩
end Go.Proofs.YtfdfjmibjnmhpaaGreat.V

namespace Go.Proofs.YtfdfjmibjnmhpaaGreat.V
open Go.RowKit Go.ChangeShapes Go.WideShapes Go.Deep Go.Proofs.YtfdfjmibjnmhpaaGreat.B

section
variable {H : Type} {enc : TypeId × Value → H} {w : World}
/-- A row whose elements open. -/
theorem open_row {α : Type} (K : Knd α) (good : α → Prop) {t e : TypeId} {fuel : Nat} {cs : List Value} {x : DataW H × List MemPlace} (ht : Tryz.prog.underlying t = some (.slice e)) (ce : Tryz.prog.cellsOf e = K.s)
    (hel : ∀ {fuel : Nat} {cs : List Value} {x : DataW H × List MemPlace}, DataW.trod enc Tryz.prog w 0 (fun _ => true) true fuel e cs = some x → ∃ q : α, cs = (K.cells q).toList ∧ good q ∧ K.rd w w.heap.size q)
    (h : DataW.trod enc Tryz.prog w 0 (fun _ => true) true fuel t cs = some x) :
    ∃ (A : Option Addr) (c : Nat) (xs : List α), cs = [.slice A xs.length c] ∧ (xs.length ≤ maxLen ∧ ∀ i, i < xs.length → good (xs.getD i K.z)) ∧ RdK K w w.heap.size A xs := by
  rcases open_slice ht h with ⟨rfl, _⟩ | ⟨a, len, cap, m, n, D, Pl, rfl, _, hl, hm, hmm, _, hx⟩
  · exact ⟨none, 0, [], rfl, ⟨by simp [maxLen], fun i hi => absurd hi (by simp)⟩, RdK.nil_⟩
  · have hlm : len ≤ m := by rw [hmm]; simpa using hl
    have each : ∀ i, i < len → ∃ q : α, (∀ j, j < K.s → w.cell? (a.add (i * K.s + j)) = (K.cells q)[j]?) ∧ good q ∧ K.rd w w.heap.size q := by
      intro i hi
      obtain ⟨cs', h1, h2⟩ := hx i (by omega)
      rw [ce] at h1
      obtain ⟨_, hlen, hcell⟩ := World.cells?_some h1
      obtain ⟨q, rfl, hg, hr⟩ := hel h2
      refine ⟨q, fun j hj => ?_, hg, hr⟩
      have e0 := hcell j (by simpa using hj)
      rw [add_add] at e0
      rw [e0]
      simp
    haveI : Inhabited α := ⟨K.z⟩
    obtain ⟨q, hq⟩ := choose_lt each
    have hg : ∀ i, i < len → ((List.range len).map q).getD i K.z = q i := fun i hi => by simp [List.getD, hi]
    refine ⟨some a, cap, (List.range len).map q, by simp, ⟨by simp; omega, fun i hi => ?_⟩, fun hp => ?_⟩
    · have hi' : i < len := by simpa using hi
      rw [hg i hi']; exact (hq i hi').2.1
    · have hp' : 0 < len := by simpa using hp
      have hz0 := (hq 0 hp').1 0 K.pos
      simp only [Nat.zero_mul, Nat.add_zero] at hz0
      rw [show a.add 0 = a from rfl] at hz0
      have hsz : 0 < (K.cells (q 0)).size := by rw [K.size]; exact K.pos
      rw [Array.getElem?_eq_getElem hsz] at hz0
      obtain ⟨b, off, rfl⟩ := addr_none hz0
      refine ⟨b, off, rfl, World.block_lt_of_cell? w ⟨b, off, none⟩ hz0, fun i hi => ?_⟩
      have hi' : i < len := by simpa using hi
      rw [hg i hi']
      obtain ⟨h0, h1, h2⟩ := hq i hi'
      refine ⟨fun j hj => ?_, h2⟩
      have := h0 j hj
      rw [add_plain] at this
      rw [Nat.add_assoc]
      exact this

theorem open_bool1 {fuel : Nat} {cs : List Value} {x : DataW H × List MemPlace} (h : DataW.trod enc Tryz.prog w 0 (fun _ => true) true fuel 4 cs = some x) : ∃ q : Bool, cs = (KB.cells q).toList ∧ True ∧ KB.rd w w.heap.size q := by
  obtain ⟨b, e, _⟩ := DataW.trod_bool Tryz.underlying4 h
  exact ⟨b, e, trivial, trivial⟩
theorem open_msg1 {fuel : Nat} {cs : List Value} {x : DataW H × List MemPlace} (h : DataW.trod enc Tryz.prog w 0 (fun _ => true) true fuel 106 cs = some x) : ∃ q : Mp, cs = (KM.cells q).toList ∧ LensM q ∧ KM.rd w w.heap.size q := by
  obtain ⟨xs, n, _, _, hlen, _, _⟩ := DataW.trod_struct Tryz.underlying106 h
  rw [show Tryz.prog.cellsOf 106 = 6 by kernel_rfl] at hlen
  obtain ⟨k0, e0⟩ := int_field Tryz.underlying106 h 0 _ rfl Tryz.underlying3 (by kernel_rfl)
  obtain ⟨k1, e1⟩ := int_field Tryz.underlying106 h 1 _ rfl Tryz.underlying3 (by kernel_rfl)
  obtain ⟨k2, e2⟩ := int_field Tryz.underlying106 h 2 _ rfl Tryz.underlying3 (by kernel_rfl)
  obtain ⟨n3, y3, h3⟩ := field_of Tryz.underlying106 h 3 _ rfl
  obtain ⟨n4, y4, h4⟩ := field_of Tryz.underlying106 h 4 _ rfl
  have h3 : DataW.trod enc Tryz.prog w 0 (fun _ => true) true n3 78 ((cs.drop 3).take (Tryz.prog.cellsOf 78)) = some y3 := h3
  have h4 : DataW.trod enc Tryz.prog w 0 (fun _ => true) true n4 77 ((cs.drop 5).take (Tryz.prog.cellsOf 77)) = some y4 := h4
  have e3 : Tryz.prog.cellsOf 78 = 2 := by kernel_rfl
  have e4 : Tryz.prog.cellsOf 77 = 1 := by kernel_rfl
  rw [e3] at h3
  rw [e4] at h4
  obtain ⟨a, b, hab⟩ := open_vote h3
  obtain ⟨A, c, vs, hcs, hm, hr⟩ := open_pairs Tryz.underlying77 Tryz.underlying78 (by kernel_rfl) rfl rfl (by kernel_rfl) (by kernel_rfl) Tryz.underlying3 Tryz.underlying3 h4
  match cs, hlen with
  | [c0, c1, c2, c3, c4, c5], _ =>
    simp at e0 e1 e2 hab hcs
    exact ⟨⟨k0, k1, k2, a, b, vs, A, c⟩, by simp [KM, Mp.cells, e0, e1, e2, hab.1, hab.2, hcs], hm, hr⟩
theorem open_link {fuel : Nat} {cs : List Value} {x : DataW H × List MemPlace} (h : DataW.trod enc Tryz.prog w 0 (fun _ => true) true fuel 86 cs = some x) : ∃ q : Lp, cs = (KL.cells q).toList ∧ LensL q ∧ KL.rd w w.heap.size q := by
  obtain ⟨A, c, xs, h1, h2, h3⟩ := open_row KM LensM Tryz.underlying86 (by kernel_rfl) open_msg1 h
  exact ⟨⟨xs, A, c⟩, h1, h2, h3⟩
theorem open_rep1 {fuel : Nat} {cs : List Value} {x : DataW H × List MemPlace} (h : DataW.trod enc Tryz.prog w 0 (fun _ => true) true fuel 84 cs = some x) : ∃ q : Rq, cs = (KQ.cells q).toList ∧ LensQ q ∧ KQ.rd w w.heap.size q := open_rep h

theorem open_cluster {fuel : Nat} {cs : List Value} {x : DataW H × List MemPlace} (h : DataW.trod enc Tryz.prog w 0 (fun _ => true) true fuel 26 cs = some x) :
    ∃ q : Cq, cs = q.cells.toList ∧ LensC q ∧ RdC4 w w.heap.size q := by
  obtain ⟨xs, n, _, _, hlen, _, _⟩ := DataW.trod_struct Tryz.underlying26 h
  rw [show Tryz.prog.cellsOf 26 = 4 by kernel_rfl] at hlen
  obtain ⟨k0, e0⟩ := int_field Tryz.underlying26 h 0 _ rfl Tryz.underlying3 (by kernel_rfl)
  obtain ⟨n1, y1, h1⟩ := field_of Tryz.underlying26 h 1 _ rfl
  obtain ⟨n2, y2, h2⟩ := field_of Tryz.underlying26 h 2 _ rfl
  obtain ⟨n3, y3, h3⟩ := field_of Tryz.underlying26 h 3 _ rfl
  have h1 : DataW.trod enc Tryz.prog w 0 (fun _ => true) true n1 22 ((cs.drop 1).take (Tryz.prog.cellsOf 22)) = some y1 := h1
  have h2 : DataW.trod enc Tryz.prog w 0 (fun _ => true) true n2 23 ((cs.drop 2).take (Tryz.prog.cellsOf 23)) = some y2 := h2
  have h3 : DataW.trod enc Tryz.prog w 0 (fun _ => true) true n3 24 ((cs.drop 3).take (Tryz.prog.cellsOf 24)) = some y3 := h3
  have t1 : Tryz.prog.cellsOf 22 = 1 := by kernel_rfl
  have t2 : Tryz.prog.cellsOf 23 = 1 := by kernel_rfl
  have t3 : Tryz.prog.cellsOf 24 = 1 := by kernel_rfl
  rw [t1] at h1
  rw [t2] at h2
  rw [t3] at h3
  obtain ⟨Ab, cb, bad, e1, m1, r1⟩ := open_row KB (fun _ => True) Tryz.underlying22 (by kernel_rfl) open_bool1 h1
  obtain ⟨Ar, cr, rs, e2, m2, r2⟩ := open_row KQ LensQ Tryz.underlying23 (by kernel_rfl) open_rep1 h2
  obtain ⟨An, cn, nt, e3, m3, r3⟩ := open_row KL LensL Tryz.underlying24 (by kernel_rfl) open_link h3
  clear h h1 h2 h3 t1 t2 t3
  match cs, hlen with
  | [c0, c1, c2, c3], _ =>
    simp at e0 e1 e2 e3
    exact ⟨⟨k0, bad, rs, nt, Ab, Ar, An, cb, cr, cn⟩, by simp [Cq.cells, e0, e1, e2, e3], ⟨m1.1, m2, m3⟩, ⟨r1, r2, r3⟩⟩
end
end Go.Proofs.YtfdfjmibjnmhpaaGreat.V
