/-
  Waiting and Quiet of the model and of the program: contracts. No statement is proved here.
-/
import Derived.Test.YtimakddepleioaaCSpec
import Derived.Test.YtimakddepleioaaCProg
set_option linter.unusedVariables false
set_option maxRecDepth 100000
namespace Go.Proofs.Ytimakddepleioaa.V
open Go.RowKit Go.Proofs.Ytimakddepleioaa.B

/-- How many messages lie on the first k links. -/
def wk (nt : List (List Md)) (k : Nat) : Nat := tkS List.length [] nt k
def waitC (d : Cd) : Int := if cluB d then (wk d.nt d.nt.length : Int) else 0
theorem clu_links {d : Cd} (h : cluB d = true) : d.nt.length ≤ 49 ∧ ∀ i, i < d.nt.length → (d.nt.getD i []).length ≤ 80 := by
  unfold cluB lensC at h
  simp only [Bool.and_eq_true, decide_eq_true_eq] at h
  obtain ⟨hs, hf, ⟨h1, h2⟩, h3, h4⟩ := h
  refine ⟨by rcases size_two hs with e | e <;> rw [e] at h2 <;> omega, fun i hi => ?_⟩
  unfold netB at h4
  rw [List.all_eq_true] at h4
  have h5 := h4 i (List.mem_range.2 hi)
  unfold linkB at h5
  simp only [Bool.and_eq_true, decide_eq_true_eq] at h5
  exact h5.1
theorem wk_step (nt : List Lp) (k : Nat) : wk (nt.map Lp.dat) (k + 1) = wk (nt.map Lp.dat) k + (nt.getD k zL).ms.length := by
  unfold wk
  rw [tkS, ldat_at]
  simp [Lp.dat]

set_option maxHeartbeats 1600000 in
theorem implWaiting_is (z : Int) (q : Cq) (hz : waitC q.dat = z) (w : World) (hr : RdC4 w w.heap.size q) (hf : FewC q) :
    Calls Try.prog 16 #[q.agg] w fun e w' => e = .returned (.int .i64 z) ∧ Below w.heap.size w w' := by
  obtain ⟨g, hg⟩ : ∃ g, cluB q.dat = g := ⟨_, rfl⟩
  have HC := Lib.hid (fun (W : World) (h : Below w.heap.size w W) => implClusterOk_is g q hg W ((hr.below h).more h.size) hf)
  have hz' : (if g then (wk (q.nt.map Lp.dat) q.nt.length : Int) else 0) = z := by rw [← hz, ← hg]; unfold waitC Cq.dat; simp
  have hl : g = true → q.nt.length ≤ 49 ∧ ∀ i, i < q.nt.length → (q.nt.getD i zL).ms.length ≤ 80 := fun e => by
    have := clu_links (hg.trans e)
    have e1 : q.dat.nt.length = q.nt.length := by simp [Cq.dat]
    refine ⟨by omega, fun i hi => ?_⟩
    have h2 := this.2 i (by omega)
    have h3 : q.dat.nt.getD i [] = (q.nt.getD i zL).dat := ldat_at q.nt i
    rw [h3] at h2
    simpa [Lp.dat] using h2
  obtain ⟨n, bad, rs, nt, Ab, Ar, An, cb, cr, cn⟩ := q
  obtain ⟨rb, rr, rn⟩ := hr
  simp only [Cq.agg, Cq.cells] at *
  obtain ⟨lb, elb⟩ : ∃ m, bad.length = m := ⟨_, rfl⟩
  obtain ⟨lr, elr⟩ : ∃ m, rs.length = m := ⟨_, rfl⟩
  obtain ⟨ln, eln⟩ : ∃ m, nt.length = m := ⟨_, rfl⟩
  simp only [elb, elr, eln] at HC hz' hl ⊢
  have HZ := Lib.hid hz'; have HL := Lib.hid hl; have ELN := Lib.hid eln; have RN := Lib.hid rn
  clear hz hz' hl elb elr eln rb rr rn hg hf
  have ka := Blk.new w 32 #[.int .i64 n, .slice Ab lb cb, .slice Ar lr cr, .slice An ln cn]
  have hB := up_ (Below.refl w.heap.size w) (.cells #[.int .i64 n, .slice Ab lb cb, .slice Ar lr cr, .slice An ln cn] 32)
  have ra := ka.rule
  go_enter Try.func16, Try.ntmps16
  go_wp2_with fail
  refine (HC.out _ hB).mono ?_
  rintro e w1 ⟨rfl, hb⟩
  have ka' := ka.on hb; have hB' := on_ hB hb; clear ka hB ra hb; have ka := ka'; have hB := hB'; clear ka' hB'; have ra := ka.rule
  rcases g with _ | _
  · go_wp2
    go_ret
    exact ⟨ret_int (by rw [← HZ.out]; rfl), hB⟩
  · obtain ⟨hln, hl80⟩ := HL.out rfl
    have H80 := Lib.hid hl80; have HZ2 : Hid ((wk (nt.map Lp.dat) ln : Int) = z) := HZ.out
    have HKA := Lib.hid ka; have HB := Lib.hid hB; clear ka hB hl80 HL HZ
    go_wp2
    go_loopw [3, 12] (fun f i wr => ∃ (k : Nat) (m : Nat), k ≤ ln ∧ i = .int .i64 k ∧ f = .int .i64 m ∧ m ≤ 80 * k ∧ Hid (m = wk (nt.map Lp.dat) k) ∧ Blk wr w.heap.size 32 #[.int .i64 n, .slice Ab lb cb, .slice Ar lr cr, .slice An ln cn] ∧ Below w.heap.size w wr) (fun _ i _ => ln - (intOf i).toNat)
    case atStart => exact ⟨0, 0, Nat.zero_le _, rfl, rfl, Nat.le_refl _, rfl, HKA.out, HB.out⟩
    case round =>
      obtain ⟨k, m, hk, rfl, rfl, hm, hmm, ka, hB⟩ := hrel
      clear HKA HB ra
      have ra := ka.rule
      by_cases hlt : k < ln
      · obtain ⟨b_, off, rfl, hb, hcs, hrv⟩ := RdK.at_ (RN.out.below hB) (k := k) (by rw [ELN.out]; omega)
        clear hrv
        have hst := wk_step nt k
        have h8 := H80.out k hlt
        change ∀ j, j < 1 → wr.cell? ⟨b_, off + k * 1 + j, none⟩ = (KL.cells (nt.getD k zL))[j]? at hcs
        obtain ⟨⟨ms, A', c'⟩, hu⟩ : ∃ u, nt.getD k zL = u := ⟨_, rfl⟩
        rw [hu] at hcs hst h8
        have hc0 : wr.cell? ⟨b_, off + k, none⟩ = some (.slice A' ms.length c') := by have := hcs 0 (by decide); simpa [KL] using this
        clear hcs hu
        simp only at hst h8
        obtain ⟨t, ht⟩ : ∃ t, ms.length = t := ⟨_, rfl⟩
        rw [ht] at hst h8 hc0
        have HST := Lib.hid hst
        have hsum : m + t ≤ 80 * (k + 1) := by omega
        have hs2 : m + t ≤ 4000 := by omega
        clear hst ht
        go_wp2
        go_roundw
        case rel => exact ⟨k + 1, m + t, by omega, by go_num, by go_num, hsum, by show _ = _; rw [HST.out, hmm.out], ka, hB⟩
        case measure => simp [intOf]; omega
      · have hkl : k = ln := by omega
        subst hkl
        go_wp2
        go_ret
        exact ⟨ret_int (by rw [← HZ2.out, hmm.out]), hB⟩

set_option maxHeartbeats 1600000 in
theorem specWaiting_is (z : Int) (q : Cq) (hz : waitC q.dat = z) (w : World) (hr : RdC4 w w.heap.size q) (hf : FewC q) :
    Calls Try.prog 15 #[q.agg] w fun e w' => e = .returned (.int .i64 z) ∧ Below w.heap.size w w' := by
  obtain ⟨g, hg⟩ : ∃ g, cluB q.dat = g := ⟨_, rfl⟩
  have HC := Lib.hid (fun (W : World) (h : Below w.heap.size w W) => specClusterOk_is g q hg W ((hr.below h).more h.size) hf)
  have hz' : (if g then (wk (q.nt.map Lp.dat) q.nt.length : Int) else 0) = z := by rw [← hz, ← hg]; unfold waitC Cq.dat; simp
  have hl : g = true → q.nt.length ≤ 49 ∧ ∀ i, i < q.nt.length → (q.nt.getD i zL).ms.length ≤ 80 := fun e => by
    have := clu_links (hg.trans e)
    have e1 : q.dat.nt.length = q.nt.length := by simp [Cq.dat]
    refine ⟨by omega, fun i hi => ?_⟩
    have h2 := this.2 i (by omega)
    have h3 : q.dat.nt.getD i [] = (q.nt.getD i zL).dat := ldat_at q.nt i
    rw [h3] at h2
    simpa [Lp.dat] using h2
  obtain ⟨n, bad, rs, nt, Ab, Ar, An, cb, cr, cn⟩ := q
  obtain ⟨rb, rr, rn⟩ := hr
  simp only [Cq.agg, Cq.cells] at *
  obtain ⟨lb, elb⟩ : ∃ m, bad.length = m := ⟨_, rfl⟩
  obtain ⟨lr, elr⟩ : ∃ m, rs.length = m := ⟨_, rfl⟩
  obtain ⟨ln, eln⟩ : ∃ m, nt.length = m := ⟨_, rfl⟩
  simp only [elb, elr, eln] at HC hz' hl ⊢
  have HZ := Lib.hid hz'; have HL := Lib.hid hl; have ELN := Lib.hid eln; have RN := Lib.hid rn
  clear hz hz' hl elb elr eln rb rr rn hg hf
  have ka := Blk.new w 32 #[.int .i64 n, .slice Ab lb cb, .slice Ar lr cr, .slice An ln cn]
  have hB := up_ (Below.refl w.heap.size w) (.cells #[.int .i64 n, .slice Ab lb cb, .slice Ar lr cr, .slice An ln cn] 32)
  have ra := ka.rule
  go_enter Try.func15, Try.ntmps15
  go_wp2_with fail
  refine (HC.out _ hB).mono ?_
  rintro e w1 ⟨rfl, hb⟩
  have ka' := ka.on hb; have hB' := on_ hB hb; clear ka hB ra hb; have ka := ka'; have hB := hB'; clear ka' hB'; have ra := ka.rule
  rcases g with _ | _
  · go_wp2
    go_ret
    exact ⟨ret_int (by rw [← HZ.out]; rfl), hB⟩
  · obtain ⟨hln, hl80⟩ := HL.out rfl
    have H80 := Lib.hid hl80; have HZ2 : Hid ((wk (nt.map Lp.dat) ln : Int) = z) := HZ.out
    have HKA := Lib.hid ka; have HB := Lib.hid hB; clear ka hB hl80 HL HZ
    go_wp2
    go_loopw [3, 4] (fun f i wr => ∃ (k : Nat) (m : Nat), k ≤ ln ∧ i = .int .i64 k ∧ f = .int .i64 m ∧ m ≤ 80 * k ∧ Hid (m = wk (nt.map Lp.dat) k) ∧ Blk wr w.heap.size 32 #[.int .i64 n, .slice Ab lb cb, .slice Ar lr cr, .slice An ln cn] ∧ Below w.heap.size w wr) (fun _ i _ => ln - (intOf i).toNat)
    case atStart => exact ⟨0, 0, Nat.zero_le _, rfl, rfl, Nat.le_refl _, rfl, HKA.out, HB.out⟩
    case round =>
      obtain ⟨k, m, hk, rfl, rfl, hm, hmm, ka, hB⟩ := hrel
      clear HKA HB ra
      have ra := ka.rule
      by_cases hlt : k < ln
      · obtain ⟨b_, off, rfl, hb, hcs, hrv⟩ := RdK.at_ (RN.out.below hB) (k := k) (by rw [ELN.out]; omega)
        clear hrv
        have hst := wk_step nt k
        have h8 := H80.out k hlt
        change ∀ j, j < 1 → wr.cell? ⟨b_, off + k * 1 + j, none⟩ = (KL.cells (nt.getD k zL))[j]? at hcs
        obtain ⟨⟨ms, A', c'⟩, hu⟩ : ∃ u, nt.getD k zL = u := ⟨_, rfl⟩
        rw [hu] at hcs hst h8
        have hc0 : wr.cell? ⟨b_, off + k, none⟩ = some (.slice A' ms.length c') := by have := hcs 0 (by decide); simpa [KL] using this
        clear hcs hu
        simp only at hst h8
        obtain ⟨t, ht⟩ : ∃ t, ms.length = t := ⟨_, rfl⟩
        rw [ht] at hst h8 hc0
        have HST := Lib.hid hst
        have hsum : m + t ≤ 80 * (k + 1) := by omega
        have hs2 : m + t ≤ 4000 := by omega
        clear hst ht
        go_wp2
        go_roundw
        case rel => exact ⟨k + 1, m + t, by omega, by go_num, by go_num, hsum, by show _ = _; rw [HST.out, hmm.out], ka, hB⟩
        case measure => simp [intOf]; omega
      · have hkl : k = ln := by omega
        subst hkl
        go_wp2
        go_ret
        exact ⟨ret_int (by rw [← HZ2.out, hmm.out]), hB⟩

set_option maxHeartbeats 800000 in
theorem implQuiet_is (z : Bool) (q : Cq) (hz : (cluB q.dat && decide (waitC q.dat = 0)) = z) (w : World) (hr : RdC4 w w.heap.size q) (hf : FewC q) :
    Calls Try.prog 20 #[q.agg] w fun e w' => e = .returned (.bool z) ∧ Below w.heap.size w w' := by
  obtain ⟨g, hg⟩ : ∃ g, cluB q.dat = g := ⟨_, rfl⟩
  obtain ⟨y, hy⟩ : ∃ y, waitC q.dat = y := ⟨_, rfl⟩
  rw [hg, hy] at hz
  have HC := Lib.hid (fun (W : World) (h : Below w.heap.size w W) => implClusterOk_is g q hg W ((hr.below h).more h.size) hf)
  have HW := Lib.hid (fun (W : World) (h : Below w.heap.size w W) => implWaiting_is y q hy W ((hr.below h).more h.size) hf)
  have HZ := Lib.hid hz
  clear hz hg hy hr hf
  obtain ⟨n, bad, rs, nt, Ab, Ar, An, cb, cr, cn⟩ := q
  simp only [Cq.agg, Cq.cells] at *
  obtain ⟨lb, elb⟩ : ∃ m, bad.length = m := ⟨_, rfl⟩
  obtain ⟨lr, elr⟩ : ∃ m, rs.length = m := ⟨_, rfl⟩
  obtain ⟨ln, eln⟩ : ∃ m, nt.length = m := ⟨_, rfl⟩
  simp only [elb, elr, eln] at HC HW ⊢
  clear elb elr eln
  have ka := Blk.new w 32 #[.int .i64 n, .slice Ab lb cb, .slice Ar lr cr, .slice An ln cn]
  have hB := up_ (Below.refl w.heap.size w) (.cells #[.int .i64 n, .slice Ab lb cb, .slice Ar lr cr, .slice An ln cn] 32)
  have ra := ka.rule
  go_enter Try.func20, Try.ntmps20
  go_wp2_with fail
  refine (HC.out _ hB).mono ?_
  rintro e w1 ⟨rfl, hb⟩
  have ka' := ka.on hb; have hB' := on_ hB hb; clear ka hB ra hb; have ka := ka'; have hB := hB'; clear ka' hB'; have ra := ka.rule
  rcases g with _ | _
  · go_wp2
    go_ret
    exact ⟨ret_bool (by rw [← HZ.out]; rfl), hB⟩
  · go_wp2_with fail
    refine (HW.out _ hB).mono ?_
    rintro e w2 ⟨rfl, hb⟩
    have hB' := on_ hB hb; clear ka hB ra hb
    by_cases hd : y = 0
    · subst hd
      go_wp2
      go_ret
      exact ⟨ret_bool (by rw [← HZ.out]; simp), hB'⟩
    · have e1 : (y == 0) = false := by simpa using hd
      have HD := Lib.hid hd; clear hd
      go_wp2
      go_ret
      exact ⟨ret_bool (by rw [← HZ.out]; simp [HD.out]), hB'⟩

set_option maxHeartbeats 800000 in
theorem specQuiet_is (z : Bool) (q : Cq) (hz : (cluB q.dat && decide (waitC q.dat = 0)) = z) (w : World) (hr : RdC4 w w.heap.size q) (hf : FewC q) :
    Calls Try.prog 19 #[q.agg] w fun e w' => e = .returned (.bool z) ∧ Below w.heap.size w w' := by
  obtain ⟨g, hg⟩ : ∃ g, cluB q.dat = g := ⟨_, rfl⟩
  obtain ⟨y, hy⟩ : ∃ y, waitC q.dat = y := ⟨_, rfl⟩
  rw [hg, hy] at hz
  have HC := Lib.hid (fun (W : World) (h : Below w.heap.size w W) => specClusterOk_is g q hg W ((hr.below h).more h.size) hf)
  have HW := Lib.hid (fun (W : World) (h : Below w.heap.size w W) => specWaiting_is y q hy W ((hr.below h).more h.size) hf)
  have HZ := Lib.hid hz
  clear hz hg hy hr hf
  obtain ⟨n, bad, rs, nt, Ab, Ar, An, cb, cr, cn⟩ := q
  simp only [Cq.agg, Cq.cells] at *
  obtain ⟨lb, elb⟩ : ∃ m, bad.length = m := ⟨_, rfl⟩
  obtain ⟨lr, elr⟩ : ∃ m, rs.length = m := ⟨_, rfl⟩
  obtain ⟨ln, eln⟩ : ∃ m, nt.length = m := ⟨_, rfl⟩
  simp only [elb, elr, eln] at HC HW ⊢
  clear elb elr eln
  have ka := Blk.new w 32 #[.int .i64 n, .slice Ab lb cb, .slice Ar lr cr, .slice An ln cn]
  have hB := up_ (Below.refl w.heap.size w) (.cells #[.int .i64 n, .slice Ab lb cb, .slice Ar lr cr, .slice An ln cn] 32)
  have ra := ka.rule
  go_enter Try.func19, Try.ntmps19
  go_wp2_with fail
  refine (HC.out _ hB).mono ?_
  rintro e w1 ⟨rfl, hb⟩
  have ka' := ka.on hb; have hB' := on_ hB hb; clear ka hB ra hb; have ka := ka'; have hB := hB'; clear ka' hB'; have ra := ka.rule
  rcases g with _ | _
  · go_wp2
    go_ret
    exact ⟨ret_bool (by rw [← HZ.out]; rfl), hB⟩
  · go_wp2_with fail
    refine (HW.out _ hB).mono ?_
    rintro e w2 ⟨rfl, hb⟩
    have hB' := on_ hB hb; clear ka hB ra hb
    by_cases hd : y = 0
    · subst hd
      go_wp2
      go_ret
      exact ⟨ret_bool (by rw [← HZ.out]; simp), hB'⟩
    · have e1 : (y == 0) = false := by simpa using hd
      have HD := Lib.hid hd; clear hd
      go_wp2
      go_ret
      exact ⟨ret_bool (by rw [← HZ.out]; simp [HD.out]), hB'⟩

end Go.Proofs.Ytimakddepleioaa.V
