/-
  How many messages are on each link of a replica: contracts. No statement is proved here.
-/
import Derived.Test.YtfdfjmibjnmhpaaGreatK17
set_option linter.unusedVariables false
set_option maxRecDepth 100000
namespace Go.Proofs.YtfdfjmibjnmhpaaGreat.V
open Go.RowKit Go.Proofs.YtfdfjmibjnmhpaaGreat.B
def splK (nt : List Lp) (b k : Nat) : List Int := (List.range k).map fun i => ((nt.getD (b + i) zL).ms.length : Int)
theorem splK_step (nt : List Lp) (b k : Nat) : splK nt b (k + 1) = splK nt b k ++ [((nt.getD (b + k) zL).ms.length : Int)] := by
  unfold splK
  rw [List.range_succ, List.map_append]
  rfl
theorem splK_len (nt : List Lp) (b k : Nat) : (splK nt b k).length = k := by simp [splK]
def splQ (d : Cd) (a : Int) : Bool := cluB d && decide (0 ≤ a ∧ a < d.n)
def splC (d : Cd) (a : Int) : List Int := if splQ d a then (List.range d.n.toNat).map fun i => ((d.nt.getD (a.toNat * d.n.toNat + i) []).length : Int) else []
theorem splC_is (q : Cq) (a N : Nat) (hn : q.n = (N : Int)) (h : splQ q.dat a = true) : splC q.dat a = splK q.nt (a * N) N := by
  unfold splC
  rw [if_pos h]
  have e : q.dat.n = (N : Int) := hn
  rw [e]
  unfold splK
  simp only [Int.toNat_natCast]
  refine List.map_congr_left fun i _ => ?_
  show (((q.nt.map Lp.dat).getD (a * N + i) []).length : Int) = _
  rw [ldat_at]
  simp [Lp.dat]
theorem splC_small (q : Cq) (a : Int) : (splC q.dat a).length ≤ 1048576 := by
  unfold splC
  rcases h : splQ q.dat a with _ | _
  · simp
  · rw [if_pos rfl, List.length_map, List.length_range]
    unfold splQ at h
    rw [Bool.and_eq_true] at h
    obtain ⟨h1, h2, h3⟩ := clu_bad h.1
    omega
theorem clu_net {d : Cd} (h : cluB d = true) : (d.nt.length : Int) = d.n * d.n := by
  unfold cluB lensC at h
  simp only [Bool.and_eq_true, decide_eq_true_eq] at h
  exact h.2.2.1.2
set_option maxHeartbeats 1600000 in
theorem isRep_any (q : Cq) (a : Int) (w : World) : Calls Tryz.prog 46 #[q.agg, .int .i64 a] w fun e w' => e = .returned (.bool (decide (0 ≤ a) && decide (a < q.n))) ∧ Below w.heap.size w w' := by
  obtain ⟨n, bad, rs, nt, Ab, Ar, An, cb, cr, cn⟩ := q
  simp only [Cq.agg, Cq.cells]
  have hB := up_ (Below.refl w.heap.size w) (.cells #[.int .i64 n, .slice Ab bad.length cb, .slice Ar rs.length cr, .slice An nt.length cn] 33)
  have ka := Blk.new w 33 #[.int .i64 n, .slice Ab bad.length cb, .slice Ar rs.length cr, .slice An nt.length cn]
  have ra := ka.rule
  by_cases h0 : 0 ≤ a
  · by_cases h1 : a < n
    · have e1 : decide (a < n) = true := decide_eq_true h1
      go_enter Tryz.func46, Tryz.ntmps46
      go_wp2
      go_ret
      exact ⟨ret_bool (by first | (simp; done) | (simp; omega)), hB⟩
    · have e1 : decide (a < n) = false := decide_eq_false h1
      go_enter Tryz.func46, Tryz.ntmps46
      go_wp2
      go_ret
      exact ⟨ret_bool (by first | (simp; done) | (simp; omega)), hB⟩
  · go_enter Tryz.func46, Tryz.ntmps46
    go_wp2
    go_ret
    exact ⟨ret_bool (by first | (simp; done) | (simp; omega)), hB⟩
set_option maxHeartbeats 3200000 in
theorem specSplit4 (q : Cq) (a : Nat) (ha : a < 4) (hg : cluB q.dat = true) (hn : q.n = 4) (w : World) (hr : RdC4 w w.heap.size q) (hf : FewC q) :
    Calls Tryz.prog 21 #[q.agg, .int .i64 (a : Int)] w (NRes (splK q.nt (a * 4) 4) w) := by
  obtain ⟨i0, hi0, hz0, hz1, hz2⟩ := info_parts infoI
  have HC := Lib.hid (fun (W : World) (h : Below w.heap.size w W) => specClusterOk_is true q hg W ((hr.below h).more h.size) hf)
  have hnl := clu_net hg
  have hnl : ((q.nt.map Lp.dat).length : Int) = q.n * q.n := hnl
  rw [List.length_map, hn] at hnl
  obtain ⟨n, bad, rs, nt, Ab, Ar, An, cb, cr, cn⟩ := q
  obtain ⟨rb, rr, rn⟩ := hr
  simp only [Cq.agg, Cq.cells] at *
  subst hn
  obtain ⟨lb, elb⟩ : ∃ m, bad.length = m := ⟨_, rfl⟩
  obtain ⟨lr, elr⟩ : ∃ m, rs.length = m := ⟨_, rfl⟩
  obtain ⟨ln, eln⟩ : ∃ m, nt.length = m := ⟨_, rfl⟩
  simp only [elb, elr, eln] at HC hnl ⊢
  have hln : ln = 16 := by omega
  subst hln
  have ELN := Lib.hid eln; have RN := Lib.hid rn
  clear elb elr eln rb rr rn hg hf hnl
  have ka := Blk.new w 33 #[.int .i64 4, .slice Ab lb cb, .slice Ar lr cr, .slice An 16 cn]
  have hB := up_ (Below.refl w.heap.size w) (.cells #[.int .i64 4, .slice Ab lb cb, .slice Ar lr cr, .slice An 16 cn] 33)
  have ra := ka.rule
  have HBX : Hid (∀ wr, Below (w.heap.size + 1) (w.alloc (.cells #[.int .i64 4, .slice Ab lb cb, .slice Ar lr cr, .slice An 16 cn] 33)) wr → Blk wr w.heap.size 33 #[.int .i64 4, .slice Ab lb cb, .slice Ar lr cr, .slice An 16 cn] ∧ Below w.heap.size w wr ∧ w.heap.size + 1 ≤ wr.heap.size) := fun wr h => ⟨ka.below h (by omega), Below.trans ((Below.refl _ _).alloc (Nat.le_refl _) _) (h.mono (by omega)), by have := h.size; simpa using this⟩
  have d0 : decide ((0 : Int) ≤ (a : Int)) = true := decide_eq_true (by omega)
  have d1 : decide ((a : Int) < 4) = true := decide_eq_true (by omega)
  have a1 : (a : Int) < 4 := by omega
  have d2 : decide ((a : Int) < 0) = false := decide_eq_false (by omega)
  have d3 : decide ((4 : Int) ≤ (a : Int)) = false := decide_eq_false (by omega)
  go_enter Tryz.func21, Tryz.ntmps21
  go_wp2_with fail
  refine (HC.out _ hB).mono ?_
  rintro e w1 ⟨rfl, hb⟩
  have hb1 : Below (w.heap.size + 1) (w.alloc (.cells #[.int .i64 4, .slice Ab lb cb, .slice Ar lr cr, .slice An 16 cn] 33)) w1 := by simpa using hb
  have ka' := ka.on hb; have hB' := on_ hB hb; clear ka hB ra hb; have ka := ka'; have hB := hB'; clear ka' hB'; have ra := ka.rule
  clear ka hB HC
  go_wp2
  go_loopw [5, 6] (fun out i wr => ∃ (k : Nat) (xs : List Int), k ≤ 4 ∧ i = .int .i64 k ∧ Hid (splK nt (a * 4) k = xs) ∧ xs.length ≤ k ∧ wr.ownsRow (w.heap.size + 1) 3 1 out xs.length (ic xs) ∧ Hid (Below (w.heap.size + 1) (w.alloc (.cells #[.int .i64 4, .slice Ab lb cb, .slice Ar lr cr, .slice An 16 cn] 33)) wr)) (fun _ i _ => 4 - (intOf i).toNat)
  case atStart => exact ⟨0, [], Nat.zero_le _, rfl, rfl, Nat.le_refl _, World.ownsRow_nil _ _ _ _, hb1⟩
  case round =>
    clear ra hb1
    obtain ⟨k, xs, hk, rfl, hxs, hxl, hown, hbel⟩ := hrel
    obtain ⟨ka, hB, hsz⟩ := HBX.out wr hbel.out
    have ra := ka.rule
    by_cases hlt : k < 4
    · obtain ⟨b_, off, rfl, hb, hcs, hrv⟩ := RdK.at_ (RN.out.below hB) (k := a * 4 + k) (by rw [ELN.out]; omega)
      clear hrv
      change ∀ j, j < 1 → wr.cell? ⟨b_, off + (a * 4 + k) * 1 + j, none⟩ = (KL.cells (nt.getD (a * 4 + k) zL))[j]? at hcs
      have hst := splK_step nt (a * 4) k
      rw [hxs.out] at hst
      obtain ⟨⟨ms, mA, mc⟩, hu⟩ : ∃ u, nt.getD (a * 4 + k) zL = u := ⟨_, rfl⟩
      rw [hu] at hcs hst
      have hc0 : wr.cell? ⟨b_, off + (a * 4 + k), none⟩ = some (.slice mA ms.length mc) := by have := hcs 0 (by decide); simpa [KL] using this
      have HN : Hid (splK nt (a * 4) (k + 1) = xs ++ [(ms.length : Int)]) := hst
      clear hcs hu hst
      have k1 : (k : Int) < 4 := by omega
      go_wp2_with (at_builtin; refine wpList_append_any _ rfl (.tmp 26) (.tmp 38) 28 rfl (w.heap.size + 1) 3 i0 _ 1 8 Tryz.underlying28 hi0 hz0 hz1 hz2 rfl (by omega) u5 xs.length (ic xs) rfl (hown.alloc _) _ _ 1 1 [.int .i64 (ms.length : Int)] rfl (lit_int _ _) (by simp [Value.oneCell']) (by simp only [maxLen]; omega) (by omega) (by simp; omega) ?_; intro v2 w2 hown2 hgr2 hat2; have hbel2 := Lib.hid ((hbel.out.alloc hsz _).grown hgr2 (by simp; omega) (fun j hj => (hown.lt j hj).1)))
      go_roundw
      case rel => exact ⟨k + 1, xs ++ [(ms.length : Int)], by omega, by go_num, HN, by simp; omega, own_app1 hown2, hbel2⟩
      case measure => simp [intOf]; omega
    · obtain rfl : k = 4 := by omega
      go_wp2
      go_ret
      refine ⟨_, rfl, ?_, hB⟩
      rw [hxs.out]
      exact own_more3 hown (by omega)
set_option maxHeartbeats 3200000 in
theorem specSplit7 (q : Cq) (a : Nat) (ha : a < 7) (hg : cluB q.dat = true) (hn : q.n = 7) (w : World) (hr : RdC4 w w.heap.size q) (hf : FewC q) :
    Calls Tryz.prog 21 #[q.agg, .int .i64 (a : Int)] w (NRes (splK q.nt (a * 7) 7) w) := by
  obtain ⟨i0, hi0, hz0, hz1, hz2⟩ := info_parts infoI
  have HC := Lib.hid (fun (W : World) (h : Below w.heap.size w W) => specClusterOk_is true q hg W ((hr.below h).more h.size) hf)
  have hnl := clu_net hg
  have hnl : ((q.nt.map Lp.dat).length : Int) = q.n * q.n := hnl
  rw [List.length_map, hn] at hnl
  obtain ⟨n, bad, rs, nt, Ab, Ar, An, cb, cr, cn⟩ := q
  obtain ⟨rb, rr, rn⟩ := hr
  simp only [Cq.agg, Cq.cells] at *
  subst hn
  obtain ⟨lb, elb⟩ : ∃ m, bad.length = m := ⟨_, rfl⟩
  obtain ⟨lr, elr⟩ : ∃ m, rs.length = m := ⟨_, rfl⟩
  obtain ⟨ln, eln⟩ : ∃ m, nt.length = m := ⟨_, rfl⟩
  simp only [elb, elr, eln] at HC hnl ⊢
  have hln : ln = 49 := by omega
  subst hln
  have ELN := Lib.hid eln; have RN := Lib.hid rn
  clear elb elr eln rb rr rn hg hf hnl
  have ka := Blk.new w 33 #[.int .i64 7, .slice Ab lb cb, .slice Ar lr cr, .slice An 49 cn]
  have hB := up_ (Below.refl w.heap.size w) (.cells #[.int .i64 7, .slice Ab lb cb, .slice Ar lr cr, .slice An 49 cn] 33)
  have ra := ka.rule
  have HBX : Hid (∀ wr, Below (w.heap.size + 1) (w.alloc (.cells #[.int .i64 7, .slice Ab lb cb, .slice Ar lr cr, .slice An 49 cn] 33)) wr → Blk wr w.heap.size 33 #[.int .i64 7, .slice Ab lb cb, .slice Ar lr cr, .slice An 49 cn] ∧ Below w.heap.size w wr ∧ w.heap.size + 1 ≤ wr.heap.size) := fun wr h => ⟨ka.below h (by omega), Below.trans ((Below.refl _ _).alloc (Nat.le_refl _) _) (h.mono (by omega)), by have := h.size; simpa using this⟩
  have d0 : decide ((0 : Int) ≤ (a : Int)) = true := decide_eq_true (by omega)
  have d1 : decide ((a : Int) < 7) = true := decide_eq_true (by omega)
  have a1 : (a : Int) < 7 := by omega
  have d2 : decide ((a : Int) < 0) = false := decide_eq_false (by omega)
  have d3 : decide ((7 : Int) ≤ (a : Int)) = false := decide_eq_false (by omega)
  go_enter Tryz.func21, Tryz.ntmps21
  go_wp2_with fail
  refine (HC.out _ hB).mono ?_
  rintro e w1 ⟨rfl, hb⟩
  have hb1 : Below (w.heap.size + 1) (w.alloc (.cells #[.int .i64 7, .slice Ab lb cb, .slice Ar lr cr, .slice An 49 cn] 33)) w1 := by simpa using hb
  have ka' := ka.on hb; have hB' := on_ hB hb; clear ka hB ra hb; have ka := ka'; have hB := hB'; clear ka' hB'; have ra := ka.rule
  clear ka hB HC
  go_wp2
  go_loopw [5, 6] (fun out i wr => ∃ (k : Nat) (xs : List Int), k ≤ 7 ∧ i = .int .i64 k ∧ Hid (splK nt (a * 7) k = xs) ∧ xs.length ≤ k ∧ wr.ownsRow (w.heap.size + 1) 3 1 out xs.length (ic xs) ∧ Hid (Below (w.heap.size + 1) (w.alloc (.cells #[.int .i64 7, .slice Ab lb cb, .slice Ar lr cr, .slice An 49 cn] 33)) wr)) (fun _ i _ => 7 - (intOf i).toNat)
  case atStart => exact ⟨0, [], Nat.zero_le _, rfl, rfl, Nat.le_refl _, World.ownsRow_nil _ _ _ _, hb1⟩
  case round =>
    clear ra hb1
    obtain ⟨k, xs, hk, rfl, hxs, hxl, hown, hbel⟩ := hrel
    obtain ⟨ka, hB, hsz⟩ := HBX.out wr hbel.out
    have ra := ka.rule
    by_cases hlt : k < 7
    · obtain ⟨b_, off, rfl, hb, hcs, hrv⟩ := RdK.at_ (RN.out.below hB) (k := a * 7 + k) (by rw [ELN.out]; omega)
      clear hrv
      change ∀ j, j < 1 → wr.cell? ⟨b_, off + (a * 7 + k) * 1 + j, none⟩ = (KL.cells (nt.getD (a * 7 + k) zL))[j]? at hcs
      have hst := splK_step nt (a * 7) k
      rw [hxs.out] at hst
      obtain ⟨⟨ms, mA, mc⟩, hu⟩ : ∃ u, nt.getD (a * 7 + k) zL = u := ⟨_, rfl⟩
      rw [hu] at hcs hst
      have hc0 : wr.cell? ⟨b_, off + (a * 7 + k), none⟩ = some (.slice mA ms.length mc) := by have := hcs 0 (by decide); simpa [KL] using this
      have HN : Hid (splK nt (a * 7) (k + 1) = xs ++ [(ms.length : Int)]) := hst
      clear hcs hu hst
      have k1 : (k : Int) < 7 := by omega
      go_wp2_with (at_builtin; refine wpList_append_any _ rfl (.tmp 26) (.tmp 38) 28 rfl (w.heap.size + 1) 3 i0 _ 1 8 Tryz.underlying28 hi0 hz0 hz1 hz2 rfl (by omega) u5 xs.length (ic xs) rfl (hown.alloc _) _ _ 1 1 [.int .i64 (ms.length : Int)] rfl (lit_int _ _) (by simp [Value.oneCell']) (by simp only [maxLen]; omega) (by omega) (by simp; omega) ?_; intro v2 w2 hown2 hgr2 hat2; have hbel2 := Lib.hid ((hbel.out.alloc hsz _).grown hgr2 (by simp; omega) (fun j hj => (hown.lt j hj).1)))
      go_roundw
      case rel => exact ⟨k + 1, xs ++ [(ms.length : Int)], by omega, by go_num, HN, by simp; omega, own_app1 hown2, hbel2⟩
      case measure => simp [intOf]; omega
    · obtain rfl : k = 7 := by omega
      go_wp2
      go_ret
      refine ⟨_, rfl, ?_, hB⟩
      rw [hxs.out]
      exact own_more3 hown (by omega)
set_option maxHeartbeats 3200000 in
theorem specSplit_no (q : Cq) (a : Int) (h : splQ q.dat a = false) (w : World) (hr : RdC4 w w.heap.size q) (hf : FewC q) :
    Calls Tryz.prog 21 #[q.agg, .int .i64 a] w (NRes [] w) := by
  obtain ⟨g, hg⟩ : ∃ g, cluB q.dat = g := ⟨_, rfl⟩
  have HC := Lib.hid (fun (W : World) (h : Below w.heap.size w W) => specClusterOk_is g q hg W ((hr.below h).more h.size) hf)
  have hcond : g = true → a < 0 ∨ q.n ≤ a := fun e => by
    unfold splQ at h
    rw [hg, e, Bool.true_and] at h
    have := of_decide_eq_false h
    have e2 : q.dat.n = q.n := rfl
    rw [e2] at this
    omega
  obtain ⟨n, bad, rs, nt, Ab, Ar, An, cb, cr, cn⟩ := q
  obtain ⟨rb, rr, rn⟩ := hr
  simp only [Cq.agg, Cq.cells] at *
  obtain ⟨lb, elb⟩ : ∃ m, bad.length = m := ⟨_, rfl⟩
  obtain ⟨lr, elr⟩ : ∃ m, rs.length = m := ⟨_, rfl⟩
  obtain ⟨ln, eln⟩ : ∃ m, nt.length = m := ⟨_, rfl⟩
  simp only [elb, elr, eln] at HC ⊢
  clear elb elr eln rb rr rn hg hf h
  have HCD := Lib.hid hcond; clear hcond
  have ka := Blk.new w 33 #[.int .i64 n, .slice Ab lb cb, .slice Ar lr cr, .slice An ln cn]
  have hB := up_ (Below.refl w.heap.size w) (.cells #[.int .i64 n, .slice Ab lb cb, .slice Ar lr cr, .slice An ln cn] 33)
  have ra := ka.rule
  go_enter Tryz.func21, Tryz.ntmps21
  go_wp2_with fail
  refine (HC.out _ hB).mono ?_
  rintro e w1 ⟨rfl, hb⟩
  have ka' := ka.on hb; have hB' := on_ hB hb; clear ka hB ra hb; have ka := ka'; have hB := hB'; clear ka' hB'; have ra := ka.rule
  rcases g with _ | _
  · go_wp2
    go_ret
    exact ⟨.slice none 0 0, rfl, World.ownsRow_nil _ _ _ _, hB⟩
  · have hc := HCD.out rfl
    by_cases h0 : a < 0
    · go_wp2
      go_ret
      exact ⟨.slice none 0 0, rfl, World.ownsRow_nil _ _ _ _, hB⟩
    · have h1 : ¬ a < n := by omega
      have h2 : n ≤ a := by omega
      go_wp2
      go_ret
      exact ⟨.slice none 0 0, rfl, World.ownsRow_nil _ _ _ _, hB⟩
theorem specSplit_is (q : Cq) (a : Int) (w : World) (hr : RdC4 w w.heap.size q) (hf : FewC q) : Calls Tryz.prog 21 #[q.agg, .int .i64 a] w (NRes (splC q.dat a) w) := by
  rcases h : splQ q.dat a with _ | _
  · have e : splC q.dat a = [] := by unfold splC; rw [h]; rfl
    rw [e]
    exact specSplit_no q a h w hr hf
  · have h' := h
    unfold splQ at h'
    rw [Bool.and_eq_true] at h'
    obtain ⟨h1, h2⟩ := h'
    have h2 := of_decide_eq_true h2
    have h2 : 0 ≤ a ∧ a < q.n := h2
    obtain ⟨_, _, h3⟩ := clu_bad h1
    have h3 : q.n = 4 ∨ q.n = 7 := h3
    obtain ⟨b, rfl⟩ : ∃ b : Nat, a = b := ⟨a.toNat, by omega⟩
    rcases h3 with h3 | h3
    · rw [splC_is q b 4 h3 h]
      exact specSplit4 q b (by omega) h1 h3 w hr hf
    · rw [splC_is q b 7 h3 h]
      exact specSplit7 q b (by omega) h1 h3 w hr hf
set_option maxHeartbeats 3200000 in
theorem implSplit4 (q : Cq) (a : Nat) (ha : a < 4) (hg : cluB q.dat = true) (hn : q.n = 4) (w : World) (hr : RdC4 w w.heap.size q) (hf : FewC q) :
    Calls Tryz.prog 22 #[q.agg, .int .i64 (a : Int)] w (NRes (splK q.nt (a * 4) 4) w) := by
  obtain ⟨i0, hi0, hz0, hz1, hz2⟩ := info_parts infoI
  have HC := Lib.hid (fun (W : World) (h : Below w.heap.size w W) => implClusterOk_is true q hg W ((hr.below h).more h.size) hf)
  have HI := Lib.hid (fun (W : World) => isRep_any q (a : Int) W)
  have hnl := clu_net hg
  have hnl : ((q.nt.map Lp.dat).length : Int) = q.n * q.n := hnl
  rw [List.length_map, hn] at hnl
  obtain ⟨n, bad, rs, nt, Ab, Ar, An, cb, cr, cn⟩ := q
  obtain ⟨rb, rr, rn⟩ := hr
  simp only [Cq.agg, Cq.cells] at *
  subst hn
  obtain ⟨lb, elb⟩ : ∃ m, bad.length = m := ⟨_, rfl⟩
  obtain ⟨lr, elr⟩ : ∃ m, rs.length = m := ⟨_, rfl⟩
  obtain ⟨ln, eln⟩ : ∃ m, nt.length = m := ⟨_, rfl⟩
  simp only [elb, elr, eln] at HC HI hnl ⊢
  have hln : ln = 16 := by omega
  subst hln
  have ELN := Lib.hid eln; have RN := Lib.hid rn
  clear elb elr eln rb rr rn hg hf hnl
  have ka := Blk.new w 33 #[.int .i64 4, .slice Ab lb cb, .slice Ar lr cr, .slice An 16 cn]
  have hB := up_ (Below.refl w.heap.size w) (.cells #[.int .i64 4, .slice Ab lb cb, .slice Ar lr cr, .slice An 16 cn] 33)
  have ra := ka.rule
  have HBX : Hid (∀ wr, Below (w.heap.size + 1) (w.alloc (.cells #[.int .i64 4, .slice Ab lb cb, .slice Ar lr cr, .slice An 16 cn] 33)) wr → Blk wr w.heap.size 33 #[.int .i64 4, .slice Ab lb cb, .slice Ar lr cr, .slice An 16 cn] ∧ Below w.heap.size w wr ∧ w.heap.size + 1 ≤ wr.heap.size) := fun wr h => ⟨ka.below h (by omega), Below.trans ((Below.refl _ _).alloc (Nat.le_refl _) _) (h.mono (by omega)), by have := h.size; simpa using this⟩
  have d0 : decide ((0 : Int) ≤ (a : Int)) = true := decide_eq_true (by omega)
  have d1 : decide ((a : Int) < 4) = true := decide_eq_true (by omega)
  have a1 : (a : Int) < 4 := by omega
  have d2 : decide ((a : Int) < 0) = false := decide_eq_false (by omega)
  have d3 : decide ((4 : Int) ≤ (a : Int)) = false := decide_eq_false (by omega)
  go_enter Tryz.func22, Tryz.ntmps22
  go_wp2_with fail
  refine (HC.out _ hB).mono ?_
  rintro e w1 ⟨rfl, hb⟩
  have hb1 : Below (w.heap.size + 1) (w.alloc (.cells #[.int .i64 4, .slice Ab lb cb, .slice Ar lr cr, .slice An 16 cn] 33)) w1 := by simpa using hb
  have ka' := ka.on hb; have hB' := on_ hB hb; clear ka hB ra hb; have ka := ka'; have hB := hB'; clear ka' hB'; have ra := ka.rule
  go_wp2_with fail
  refine (HI.out _).mono ?_
  rintro e w2 ⟨rfl, hb⟩
  have hb2 := hb1.trans (hb.mono (by have := hb1.size; simp at this; omega))
  clear ra hb1; have hb1 := hb2; clear hb2
  have ka' := ka.on hb; clear ka hb; have ka := ka'; clear ka'; have ra := ka.rule
  clear ka hB HC
  go_wp2
  go_loopw [5, 18] (fun out i wr => ∃ (k : Nat) (xs : List Int), k ≤ 4 ∧ i = .int .i64 k ∧ Hid (splK nt (a * 4) k = xs) ∧ xs.length ≤ k ∧ wr.ownsRow (w.heap.size + 1) 3 1 out xs.length (ic xs) ∧ Hid (Below (w.heap.size + 1) (w.alloc (.cells #[.int .i64 4, .slice Ab lb cb, .slice Ar lr cr, .slice An 16 cn] 33)) wr)) (fun _ i _ => 4 - (intOf i).toNat)
  case atStart => exact ⟨0, [], Nat.zero_le _, rfl, rfl, Nat.le_refl _, World.ownsRow_nil _ _ _ _, hb1⟩
  case round =>
    clear ra hb1
    obtain ⟨k, xs, hk, rfl, hxs, hxl, hown, hbel⟩ := hrel
    obtain ⟨ka, hB, hsz⟩ := HBX.out wr hbel.out
    have ra := ka.rule
    by_cases hlt : k < 4
    · obtain ⟨b_, off, rfl, hb, hcs, hrv⟩ := RdK.at_ (RN.out.below hB) (k := a * 4 + k) (by rw [ELN.out]; omega)
      clear hrv
      change ∀ j, j < 1 → wr.cell? ⟨b_, off + (a * 4 + k) * 1 + j, none⟩ = (KL.cells (nt.getD (a * 4 + k) zL))[j]? at hcs
      have hst := splK_step nt (a * 4) k
      rw [hxs.out] at hst
      obtain ⟨⟨ms, mA, mc⟩, hu⟩ : ∃ u, nt.getD (a * 4 + k) zL = u := ⟨_, rfl⟩
      rw [hu] at hcs hst
      have hc0 : wr.cell? ⟨b_, off + (a * 4 + k), none⟩ = some (.slice mA ms.length mc) := by have := hcs 0 (by decide); simpa [KL] using this
      have HN : Hid (splK nt (a * 4) (k + 1) = xs ++ [(ms.length : Int)]) := hst
      clear hcs hu hst
      have k1 : (k : Int) < 4 := by omega
      go_wp2_with (at_builtin; refine wpList_append_any _ rfl (.tmp 21) (.tmp 33) 28 rfl (w.heap.size + 1) 3 i0 _ 1 8 Tryz.underlying28 hi0 hz0 hz1 hz2 rfl (by omega) u5 xs.length (ic xs) rfl (hown.alloc _) _ _ 1 1 [.int .i64 (ms.length : Int)] rfl (lit_int _ _) (by simp [Value.oneCell']) (by simp only [maxLen]; omega) (by omega) (by simp; omega) ?_; intro v2 w2 hown2 hgr2 hat2; have hbel2 := Lib.hid ((hbel.out.alloc hsz _).grown hgr2 (by simp; omega) (fun j hj => (hown.lt j hj).1)))
      go_roundw
      case rel => exact ⟨k + 1, xs ++ [(ms.length : Int)], by omega, by go_num, HN, by simp; omega, own_app1 hown2, hbel2⟩
      case measure => simp [intOf]; omega
    · obtain rfl : k = 4 := by omega
      go_wp2
      go_ret
      refine ⟨_, rfl, ?_, hB⟩
      rw [hxs.out]
      exact own_more3 hown (by omega)
set_option maxHeartbeats 3200000 in
theorem implSplit7 (q : Cq) (a : Nat) (ha : a < 7) (hg : cluB q.dat = true) (hn : q.n = 7) (w : World) (hr : RdC4 w w.heap.size q) (hf : FewC q) :
    Calls Tryz.prog 22 #[q.agg, .int .i64 (a : Int)] w (NRes (splK q.nt (a * 7) 7) w) := by
  obtain ⟨i0, hi0, hz0, hz1, hz2⟩ := info_parts infoI
  have HC := Lib.hid (fun (W : World) (h : Below w.heap.size w W) => implClusterOk_is true q hg W ((hr.below h).more h.size) hf)
  have HI := Lib.hid (fun (W : World) => isRep_any q (a : Int) W)
  have hnl := clu_net hg
  have hnl : ((q.nt.map Lp.dat).length : Int) = q.n * q.n := hnl
  rw [List.length_map, hn] at hnl
  obtain ⟨n, bad, rs, nt, Ab, Ar, An, cb, cr, cn⟩ := q
  obtain ⟨rb, rr, rn⟩ := hr
  simp only [Cq.agg, Cq.cells] at *
  subst hn
  obtain ⟨lb, elb⟩ : ∃ m, bad.length = m := ⟨_, rfl⟩
  obtain ⟨lr, elr⟩ : ∃ m, rs.length = m := ⟨_, rfl⟩
  obtain ⟨ln, eln⟩ : ∃ m, nt.length = m := ⟨_, rfl⟩
  simp only [elb, elr, eln] at HC HI hnl ⊢
  have hln : ln = 49 := by omega
  subst hln
  have ELN := Lib.hid eln; have RN := Lib.hid rn
  clear elb elr eln rb rr rn hg hf hnl
  have ka := Blk.new w 33 #[.int .i64 7, .slice Ab lb cb, .slice Ar lr cr, .slice An 49 cn]
  have hB := up_ (Below.refl w.heap.size w) (.cells #[.int .i64 7, .slice Ab lb cb, .slice Ar lr cr, .slice An 49 cn] 33)
  have ra := ka.rule
  have HBX : Hid (∀ wr, Below (w.heap.size + 1) (w.alloc (.cells #[.int .i64 7, .slice Ab lb cb, .slice Ar lr cr, .slice An 49 cn] 33)) wr → Blk wr w.heap.size 33 #[.int .i64 7, .slice Ab lb cb, .slice Ar lr cr, .slice An 49 cn] ∧ Below w.heap.size w wr ∧ w.heap.size + 1 ≤ wr.heap.size) := fun wr h => ⟨ka.below h (by omega), Below.trans ((Below.refl _ _).alloc (Nat.le_refl _) _) (h.mono (by omega)), by have := h.size; simpa using this⟩
  have d0 : decide ((0 : Int) ≤ (a : Int)) = true := decide_eq_true (by omega)
  have d1 : decide ((a : Int) < 7) = true := decide_eq_true (by omega)
  have a1 : (a : Int) < 7 := by omega
  have d2 : decide ((a : Int) < 0) = false := decide_eq_false (by omega)
  have d3 : decide ((7 : Int) ≤ (a : Int)) = false := decide_eq_false (by omega)
  go_enter Tryz.func22, Tryz.ntmps22
  go_wp2_with fail
  refine (HC.out _ hB).mono ?_
  rintro e w1 ⟨rfl, hb⟩
  have hb1 : Below (w.heap.size + 1) (w.alloc (.cells #[.int .i64 7, .slice Ab lb cb, .slice Ar lr cr, .slice An 49 cn] 33)) w1 := by simpa using hb
  have ka' := ka.on hb; have hB' := on_ hB hb; clear ka hB ra hb; have ka := ka'; have hB := hB'; clear ka' hB'; have ra := ka.rule
  go_wp2_with fail
  refine (HI.out _).mono ?_
  rintro e w2 ⟨rfl, hb⟩
  have hb2 := hb1.trans (hb.mono (by have := hb1.size; simp at this; omega))
  clear ra hb1; have hb1 := hb2; clear hb2
  have ka' := ka.on hb; clear ka hb; have ka := ka'; clear ka'; have ra := ka.rule
  clear ka hB HC
  go_wp2
  go_loopw [5, 18] (fun out i wr => ∃ (k : Nat) (xs : List Int), k ≤ 7 ∧ i = .int .i64 k ∧ Hid (splK nt (a * 7) k = xs) ∧ xs.length ≤ k ∧ wr.ownsRow (w.heap.size + 1) 3 1 out xs.length (ic xs) ∧ Hid (Below (w.heap.size + 1) (w.alloc (.cells #[.int .i64 7, .slice Ab lb cb, .slice Ar lr cr, .slice An 49 cn] 33)) wr)) (fun _ i _ => 7 - (intOf i).toNat)
  case atStart => exact ⟨0, [], Nat.zero_le _, rfl, rfl, Nat.le_refl _, World.ownsRow_nil _ _ _ _, hb1⟩
  case round =>
    clear ra hb1
    obtain ⟨k, xs, hk, rfl, hxs, hxl, hown, hbel⟩ := hrel
    obtain ⟨ka, hB, hsz⟩ := HBX.out wr hbel.out
    have ra := ka.rule
    by_cases hlt : k < 7
    · obtain ⟨b_, off, rfl, hb, hcs, hrv⟩ := RdK.at_ (RN.out.below hB) (k := a * 7 + k) (by rw [ELN.out]; omega)
      clear hrv
      change ∀ j, j < 1 → wr.cell? ⟨b_, off + (a * 7 + k) * 1 + j, none⟩ = (KL.cells (nt.getD (a * 7 + k) zL))[j]? at hcs
      have hst := splK_step nt (a * 7) k
      rw [hxs.out] at hst
      obtain ⟨⟨ms, mA, mc⟩, hu⟩ : ∃ u, nt.getD (a * 7 + k) zL = u := ⟨_, rfl⟩
      rw [hu] at hcs hst
      have hc0 : wr.cell? ⟨b_, off + (a * 7 + k), none⟩ = some (.slice mA ms.length mc) := by have := hcs 0 (by decide); simpa [KL] using this
      have HN : Hid (splK nt (a * 7) (k + 1) = xs ++ [(ms.length : Int)]) := hst
      clear hcs hu hst
      have k1 : (k : Int) < 7 := by omega
      go_wp2_with (at_builtin; refine wpList_append_any _ rfl (.tmp 21) (.tmp 33) 28 rfl (w.heap.size + 1) 3 i0 _ 1 8 Tryz.underlying28 hi0 hz0 hz1 hz2 rfl (by omega) u5 xs.length (ic xs) rfl (hown.alloc _) _ _ 1 1 [.int .i64 (ms.length : Int)] rfl (lit_int _ _) (by simp [Value.oneCell']) (by simp only [maxLen]; omega) (by omega) (by simp; omega) ?_; intro v2 w2 hown2 hgr2 hat2; have hbel2 := Lib.hid ((hbel.out.alloc hsz _).grown hgr2 (by simp; omega) (fun j hj => (hown.lt j hj).1)))
      go_roundw
      case rel => exact ⟨k + 1, xs ++ [(ms.length : Int)], by omega, by go_num, HN, by simp; omega, own_app1 hown2, hbel2⟩
      case measure => simp [intOf]; omega
    · obtain rfl : k = 7 := by omega
      go_wp2
      go_ret
      refine ⟨_, rfl, ?_, hB⟩
      rw [hxs.out]
      exact own_more3 hown (by omega)
set_option maxHeartbeats 3200000 in
theorem implSplit_no (q : Cq) (a : Int) (h : splQ q.dat a = false) (w : World) (hr : RdC4 w w.heap.size q) (hf : FewC q) :
    Calls Tryz.prog 22 #[q.agg, .int .i64 a] w (NRes [] w) := by
  obtain ⟨g, hg⟩ : ∃ g, cluB q.dat = g := ⟨_, rfl⟩
  have HC := Lib.hid (fun (W : World) (h : Below w.heap.size w W) => implClusterOk_is g q hg W ((hr.below h).more h.size) hf)
  have hcond : g = true → a < 0 ∨ q.n ≤ a := fun e => by
    unfold splQ at h
    rw [hg, e, Bool.true_and] at h
    have := of_decide_eq_false h
    have e2 : q.dat.n = q.n := rfl
    rw [e2] at this
    omega
  have HI := Lib.hid (fun (W : World) => isRep_any q a W)
  obtain ⟨n, bad, rs, nt, Ab, Ar, An, cb, cr, cn⟩ := q
  obtain ⟨rb, rr, rn⟩ := hr
  simp only [Cq.agg, Cq.cells] at *
  obtain ⟨lb, elb⟩ : ∃ m, bad.length = m := ⟨_, rfl⟩
  obtain ⟨lr, elr⟩ : ∃ m, rs.length = m := ⟨_, rfl⟩
  obtain ⟨ln, eln⟩ : ∃ m, nt.length = m := ⟨_, rfl⟩
  simp only [elb, elr, eln] at HC HI ⊢
  clear elb elr eln rb rr rn hg hf h
  have HCD := Lib.hid hcond; clear hcond
  have ka := Blk.new w 33 #[.int .i64 n, .slice Ab lb cb, .slice Ar lr cr, .slice An ln cn]
  have hB := up_ (Below.refl w.heap.size w) (.cells #[.int .i64 n, .slice Ab lb cb, .slice Ar lr cr, .slice An ln cn] 33)
  have ra := ka.rule
  go_enter Tryz.func22, Tryz.ntmps22
  go_wp2_with fail
  refine (HC.out _ hB).mono ?_
  rintro e w1 ⟨rfl, hb⟩
  have ka' := ka.on hb; have hB' := on_ hB hb; clear ka hB ra hb; have ka := ka'; have hB := hB'; clear ka' hB'; have ra := ka.rule
  rcases g with _ | _
  · go_wp2
    go_ret
    exact ⟨.slice none 0 0, rfl, World.ownsRow_nil _ _ _ _, hB⟩
  · have hc := HCD.out rfl
    go_wp2_with fail
    refine (HI.out _).mono ?_
    rintro e w2 ⟨rfl, hb⟩
    have hB2 := on_ hB hb
    have hd : (decide (0 ≤ a) && decide (a < n)) = false := by
      rcases hc with hc | hc
      · rw [decide_eq_false (by omega), Bool.false_and]
      · rw [decide_eq_false (by omega : ¬ a < n), Bool.and_false]
    rw [hd]
    clear hd hc
    go_wp2
    go_ret
    exact ⟨.slice none 0 0, rfl, World.ownsRow_nil _ _ _ _, hB2⟩
theorem implSplit_is (q : Cq) (a : Int) (w : World) (hr : RdC4 w w.heap.size q) (hf : FewC q) : Calls Tryz.prog 22 #[q.agg, .int .i64 a] w (NRes (splC q.dat a) w) := by
  rcases h : splQ q.dat a with _ | _
  · have e : splC q.dat a = [] := by unfold splC; rw [h]; rfl
    rw [e]
    exact implSplit_no q a h w hr hf
  · have h' := h
    unfold splQ at h'
    rw [Bool.and_eq_true] at h'
    obtain ⟨h1, h2⟩ := h'
    have h2 := of_decide_eq_true h2
    have h2 : 0 ≤ a ∧ a < q.n := h2
    obtain ⟨_, _, h3⟩ := clu_bad h1
    have h3 : q.n = 4 ∨ q.n = 7 := h3
    obtain ⟨b, rfl⟩ : ∃ b : Nat, a = b := ⟨a.toNat, by omega⟩
    rcases h3 with h3 | h3
    · rw [splC_is q b 4 h3 h]
      exact implSplit4 q b (by omega) h1 h3 w hr hf
    · rw [splC_is q b 7 h3 h]
      exact implSplit7 q b (by omega) h1 h3 w hr hf
end Go.Proofs.YtfdfjmibjnmhpaaGreat.V
