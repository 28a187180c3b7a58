/-
  What a replica voted for, and whether it waits, of the model and of the program: contracts. No statement is proved here.
-/
import Derived.Test.YtmibimmjoaobcaaQTop
set_option linter.unusedVariables false
set_option maxRecDepth 100000
namespace Go.Proofs.Ytmibimmjoaobcaa.V
open Go.RowKit Go.Proofs.Ytmibimmjoaobcaa.B

def votedB (vs : List (Int × Int)) (view : Int) : Bool := decide (0 < vs.length) && decide ((vs.getD (vs.length - 1) (0, 0)).1 = view)
def findV (vs : List (Int × Int)) (view : Int) : Int × Bool := match vs.find? (fun p => decide (p.1 = view)) with
  | some p => (p.2, true)
  | none => (0, false)
theorem find_none2 {vs : List (Int × Int)} {p : Int × Int → Bool} (h : ∀ j, j < vs.length → p (vs.getD j (0, 0)) = false) : vs.find? p = none := by
  rw [List.find?_eq_none]
  intro x hx
  obtain ⟨i, hi, rfl⟩ := List.getElem_of_mem hx
  have := h i hi
  rw [List.getD_eq_getElem?_getD, List.getElem?_eq_getElem hi] at this
  simpa using this
theorem find_some2 : ∀ {vs : List (Int × Int)} {p : Int × Int → Bool} {k : Nat}, k < vs.length → (∀ j, j < k → p (vs.getD j (0, 0)) = false) → p (vs.getD k (0, 0)) = true → vs.find? p = some (vs.getD k (0, 0))
  | [], _, k, hk, _, _ => absurd hk (by simp)
  | v :: vs, p, 0, _, _, h => by
    simp only [List.getD_cons_zero] at h ⊢
    rw [List.find?_cons_of_pos h]
  | v :: vs, p, k + 1, hk, ha, h => by
    have h0 := ha 0 (by omega)
    simp only [List.getD_cons_zero] at h0
    simp only [List.getD_cons_succ] at h ⊢
    rw [List.find?_cons_of_neg (by simp [h0])]
    exact find_some2 (by simpa using hk) (fun j hj => by have := ha (j + 1) (by omega); simpa only [List.getD_cons_succ] using this) h

set_option maxHeartbeats 1600000 in
theorem l4voted_is (z : Bool) (q : Rq) (hz : votedB q.voted q.view = z) (w : World) (hr : RdQ w w.heap.size q) (hf : FewQ q) :
    Calls Try.prog 62 #[q.agg] w fun e w' => e = .returned (.bool z) ∧ Below w.heap.size w w' := by
  obtain ⟨n, id, own, view, left, voted, lv, lx, dn, pr, vo, re, ds, hs, Av, Ap, Ao, Ar, Ad, Ah, cv, cp, co, cr, cd, ch⟩ := q
  obtain ⟨rv, rp, ro, rr, rd, rh⟩ := hr
  obtain ⟨fv, fp, fo, fr, fd, fh⟩ := hf
  simp only [Rq.agg, Rq.cells] at *
  obtain ⟨lv0, elv0⟩ : ∃ m, voted.length = m := ⟨_, rfl⟩
  obtain ⟨lp0, elp0⟩ : ∃ m, pr.length = m := ⟨_, rfl⟩
  obtain ⟨lo0, elo0⟩ : ∃ m, vo.length = m := ⟨_, rfl⟩
  obtain ⟨lr0, elr0⟩ : ∃ m, re.length = m := ⟨_, rfl⟩
  obtain ⟨ld0, eld0⟩ : ∃ m, ds.length = m := ⟨_, rfl⟩
  obtain ⟨lh0, elh0⟩ : ∃ m, hs.length = m := ⟨_, rfl⟩
  simp only [elv0, elp0, elo0, elr0, eld0, elh0]
  have HZ := Lib.hid hz; have ELV := Lib.hid elv0; clear hz
  have blv : lv0 ≤ 1048576 := by rw [← elv0]; exact fv
  have rv1 := Lib.hid (rv.up (.cells #[.int .i64 n, .int .i64 id, .int .i64 own, .int .i64 view, .int .i64 left, .slice Av lv0 cv, .int .i64 lv, .int .i64 lx, .int .i64 dn, .slice Ap lp0 cp, .slice Ao lo0 co, .slice Ar lr0 cr, .slice Ad ld0 cd, .slice Ah lh0 ch] 40))
  clear elv0 elp0 elo0 elr0 eld0 elh0 rv rp ro rr rd rh fv fp fo fr fd fh
  have ka := Blk.new w 40 #[.int .i64 n, .int .i64 id, .int .i64 own, .int .i64 view, .int .i64 left, .slice Av lv0 cv, .int .i64 lv, .int .i64 lx, .int .i64 dn, .slice Ap lp0 cp, .slice Ao lo0 co, .slice Ar lr0 cr, .slice Ad ld0 cd, .slice Ah lh0 ch]
  have hB := up_ (Below.refl w.heap.size w) (.cells #[.int .i64 n, .int .i64 id, .int .i64 own, .int .i64 view, .int .i64 left, .slice Av lv0 cv, .int .i64 lv, .int .i64 lx, .int .i64 dn, .slice Ap lp0 cp, .slice Ao lo0 co, .slice Ar lr0 cr, .slice Ad ld0 cd, .slice Ah lh0 ch] 40)
  have C0 := fun x => lat_blk ka x
  have HB := Lib.hid hB; clear hB
  by_cases h0 : lv0 = 0
  · subst h0
    have hz0 : z = false := by rw [← HZ.out]; simp [votedB, ELV.out]
    subst hz0
    have ra := ka.rule
    go_enter Try.func62, Try.ntmps62
    go_wp2
    refine wp_region_lat (by kernel_rfl) (by kernel_rfl) ?_
    repeat (go_big_quiet_step (fail))
    refine wpQuiet_nil ?_
    rintro w3 ⟨⟨_, hb3⟩, rfl⟩
    have hB3 := on_ HB.out hb3
    clear C0 ra ka
    go_wp2
    go_ret
    exact ⟨rfl, hB3⟩
  · obtain ⟨p, hkp⟩ : ∃ p, lv0 = p + 1 := ⟨lv0 - 1, by omega⟩
    obtain ⟨b, off, rfl, hb, hc0, hc1⟩ := Rd.at_ rv1.out (k := p) (by rw [ELV.out]; omega)
    have hE : (lv0 : Int) - 1 = (p : Int) := by omega
    have hW : IntKind.i64.wrap (p : Int) = (p : Int) := IntWalk.i64_in _ (by omega)
    have hw4 : (p : Int) < (lv0 : Int) := by omega
    have hw5 : p < lv0 := by omega
    have hd0 : decide ((0 : Int) < (lv0 : Int)) = true := by simp; omega
    have hd1 : decide ((0 : Int) ≤ (p : Int)) = true := by simp
    have hd2 : decide (0 < lv0) = true := by simp; omega
    have hd3 : 0 < lv0 := by omega
    have HX : Hid (z = decide ((voted.getD p (0, 0)).1 = view)) := by show _ = _; rw [← HZ.out]; unfold votedB; rw [ELV.out, hkp]; simp
    obtain ⟨⟨xa, xb⟩, hu⟩ : ∃ u, voted.getD p (0, 0) = u := ⟨_, rfl⟩
    rw [hu] at hc0 hc1 HX
    simp only at hc0 hc1 HX
    have HKP := Lib.hid hkp; clear hkp hu h0 rv1
    have P0 := fun x : Lat (w.alloc (.cells #[.int .i64 n, .int .i64 id, .int .i64 own, .int .i64 view, .int .i64 left, .slice (some ⟨b, off, none⟩) lv0 cv, .int .i64 lv, .int .i64 lx, .int .i64 dn, .slice Ap lp0 cp, .slice Ao lo0 co, .slice Ar lr0 cr, .slice Ad ld0 cd, .slice Ah lh0 ch] 40)) => x.cell hc0
    by_cases hx : xa = view
    · subst hx
      have hz1 : z = true := by rw [HX.out]; simp
      subst hz1
      have ra := ka.rule
      go_enter Try.func62, Try.ntmps62
      go_wp2
      refine wp_region_lat (by kernel_rfl) (by kernel_rfl) ?_
      repeat (go_big_quiet_step (fail))
      refine wpQuiet_nil ?_
      rintro w3 ⟨⟨_, hb3⟩, rfl⟩
      have hB3 := on_ HB.out hb3
      clear C0 P0 ra ka
      go_wp2
      go_ret
      exact ⟨ret_bool (by simp), hB3⟩
    · have hx' : (xa == view) = false := by simpa using hx
      have hz1 : z = false := by rw [HX.out]; simp [hx]
      subst hz1
      have HXX := Lib.hid hx; clear hx
      have ra := ka.rule
      go_enter Try.func62, Try.ntmps62
      go_wp2
      refine wp_region_lat (by kernel_rfl) (by kernel_rfl) ?_
      repeat (go_big_quiet_step (fail))
      refine wpQuiet_nil ?_
      rintro w3 ⟨⟨_, hb3⟩, rfl⟩
      have hB3 := on_ HB.out hb3
      clear C0 P0 ra ka
      go_wp2
      go_ret
      exact ⟨ret_bool (by simp), hB3⟩

set_option maxHeartbeats 1600000 in
theorem hasVoted_is (z : Bool) (q : Rq) (hz : votedB q.voted q.view = z) (w : World) (hr : RdQ w w.heap.size q) (hf : FewQ q) :
    Calls Try.prog 63 #[q.agg] w fun e w' => e = .returned (.bool z) ∧ Below w.heap.size w w' := by
  obtain ⟨n, id, own, view, left, voted, lv, lx, dn, pr, vo, re, ds, hs, Av, Ap, Ao, Ar, Ad, Ah, cv, cp, co, cr, cd, ch⟩ := q
  obtain ⟨rv, rp, ro, rr, rd, rh⟩ := hr
  obtain ⟨fv, fp, fo, fr, fd, fh⟩ := hf
  simp only [Rq.agg, Rq.cells] at *
  obtain ⟨lv0, elv0⟩ : ∃ m, voted.length = m := ⟨_, rfl⟩
  obtain ⟨lp0, elp0⟩ : ∃ m, pr.length = m := ⟨_, rfl⟩
  obtain ⟨lo0, elo0⟩ : ∃ m, vo.length = m := ⟨_, rfl⟩
  obtain ⟨lr0, elr0⟩ : ∃ m, re.length = m := ⟨_, rfl⟩
  obtain ⟨ld0, eld0⟩ : ∃ m, ds.length = m := ⟨_, rfl⟩
  obtain ⟨lh0, elh0⟩ : ∃ m, hs.length = m := ⟨_, rfl⟩
  simp only [elv0, elp0, elo0, elr0, eld0, elh0]
  have HZ := Lib.hid hz; have ELV := Lib.hid elv0; clear hz
  have blv : lv0 ≤ 1048576 := by rw [← elv0]; exact fv
  have rv1 := Lib.hid (rv.up (.cells #[.int .i64 n, .int .i64 id, .int .i64 own, .int .i64 view, .int .i64 left, .slice Av lv0 cv, .int .i64 lv, .int .i64 lx, .int .i64 dn, .slice Ap lp0 cp, .slice Ao lo0 co, .slice Ar lr0 cr, .slice Ad ld0 cd, .slice Ah lh0 ch] 40))
  clear elv0 elp0 elo0 elr0 eld0 elh0 rv rp ro rr rd rh fv fp fo fr fd fh
  have ka := Blk.new w 40 #[.int .i64 n, .int .i64 id, .int .i64 own, .int .i64 view, .int .i64 left, .slice Av lv0 cv, .int .i64 lv, .int .i64 lx, .int .i64 dn, .slice Ap lp0 cp, .slice Ao lo0 co, .slice Ar lr0 cr, .slice Ad ld0 cd, .slice Ah lh0 ch]
  have hB := up_ (Below.refl w.heap.size w) (.cells #[.int .i64 n, .int .i64 id, .int .i64 own, .int .i64 view, .int .i64 left, .slice Av lv0 cv, .int .i64 lv, .int .i64 lx, .int .i64 dn, .slice Ap lp0 cp, .slice Ao lo0 co, .slice Ar lr0 cr, .slice Ad ld0 cd, .slice Ah lh0 ch] 40)
  have C0 := fun x => lat_blk ka x
  have HB := Lib.hid hB; clear hB
  by_cases h0 : lv0 = 0
  · subst h0
    have hz0 : z = false := by rw [← HZ.out]; simp [votedB, ELV.out]
    subst hz0
    have ra := ka.rule
    go_enter Try.func63, Try.ntmps63
    go_wp2
    refine wp_region_lat (by kernel_rfl) (by kernel_rfl) ?_
    repeat (go_big_quiet_step (fail))
    refine wpQuiet_nil ?_
    rintro w3 ⟨⟨_, hb3⟩, rfl⟩
    have hB3 := on_ HB.out hb3
    clear C0 ra ka
    go_wp2
    go_ret
    exact ⟨rfl, hB3⟩
  · obtain ⟨p, hkp⟩ : ∃ p, lv0 = p + 1 := ⟨lv0 - 1, by omega⟩
    obtain ⟨b, off, rfl, hb, hc0, hc1⟩ := Rd.at_ rv1.out (k := p) (by rw [ELV.out]; omega)
    have hE : (lv0 : Int) - 1 = (p : Int) := by omega
    have hW : IntKind.i64.wrap (p : Int) = (p : Int) := IntWalk.i64_in _ (by omega)
    have hw4 : (p : Int) < (lv0 : Int) := by omega
    have hw5 : p < lv0 := by omega
    have hd0 : decide ((0 : Int) < (lv0 : Int)) = true := by simp; omega
    have hd1 : decide ((0 : Int) ≤ (p : Int)) = true := by simp
    have hd2 : decide (0 < lv0) = true := by simp; omega
    have hd3 : 0 < lv0 := by omega
    have HX : Hid (z = decide ((voted.getD p (0, 0)).1 = view)) := by show _ = _; rw [← HZ.out]; unfold votedB; rw [ELV.out, hkp]; simp
    obtain ⟨⟨xa, xb⟩, hu⟩ : ∃ u, voted.getD p (0, 0) = u := ⟨_, rfl⟩
    rw [hu] at hc0 hc1 HX
    simp only at hc0 hc1 HX
    have HKP := Lib.hid hkp; clear hkp hu h0 rv1
    have P0 := fun x : Lat (w.alloc (.cells #[.int .i64 n, .int .i64 id, .int .i64 own, .int .i64 view, .int .i64 left, .slice (some ⟨b, off, none⟩) lv0 cv, .int .i64 lv, .int .i64 lx, .int .i64 dn, .slice Ap lp0 cp, .slice Ao lo0 co, .slice Ar lr0 cr, .slice Ad ld0 cd, .slice Ah lh0 ch] 40)) => x.cell hc0
    by_cases hx : xa = view
    · subst hx
      have hz1 : z = true := by rw [HX.out]; simp
      subst hz1
      have ra := ka.rule
      go_enter Try.func63, Try.ntmps63
      go_wp2
      refine wp_region_lat (by kernel_rfl) (by kernel_rfl) ?_
      repeat (go_big_quiet_step (fail))
      refine wpQuiet_nil ?_
      rintro w3 ⟨⟨_, hb3⟩, rfl⟩
      have hB3 := on_ HB.out hb3
      clear C0 P0 ra ka
      go_wp2
      go_ret
      exact ⟨ret_bool (by simp), hB3⟩
    · have hx' : (xa == view) = false := by simpa using hx
      have hz1 : z = false := by rw [HX.out]; simp [hx]
      subst hz1
      have HXX := Lib.hid hx; clear hx
      have ra := ka.rule
      go_enter Try.func63, Try.ntmps63
      go_wp2
      refine wp_region_lat (by kernel_rfl) (by kernel_rfl) ?_
      repeat (go_big_quiet_step (fail))
      refine wpQuiet_nil ?_
      rintro w3 ⟨⟨_, hb3⟩, rfl⟩
      have hB3 := on_ HB.out hb3
      clear C0 P0 ra ka
      go_wp2
      go_ret
      exact ⟨ret_bool (by simp), hB3⟩

set_option maxHeartbeats 1600000 in
theorem specWaits_is (z : Bool) (q : Rq) (hz : (repQ q.dat && (!(votedB q.voted q.view) && decide (q.dn = 0))) = z) (w : World) (hr : RdQ w w.heap.size q) (hf : FewQ q) :
    Calls Try.prog 17 #[q.agg] w fun e w' => e = .returned (.bool z) ∧ Below w.heap.size w w' := by
  obtain ⟨b1, hb1⟩ : ∃ b, repQ q.dat = b := ⟨_, rfl⟩
  obtain ⟨b2, hb2⟩ : ∃ b, votedB q.voted q.view = b := ⟨_, rfl⟩
  rw [hb1, hb2] at hz
  have H1 := Lib.hid (fun (W : World) (h : Below w.heap.size w W) => specRepOk_is b1 q hb1 W ((hr.below h).more h.size) hf)
  have H2 := Lib.hid (fun (W : World) (h : Below w.heap.size w W) => l4voted_is b2 q hb2 W ((hr.below h).more h.size) hf)
  clear hb1 hb2
  obtain ⟨n, id, own, view, left, voted, lv, lx, dn, pr, vo, re, ds, hs, Av, Ap, Ao, Ar, Ad, Ah, cv, cp, co, cr, cd, ch⟩ := q
  obtain ⟨rv, rp, ro, rr, rd, rh⟩ := hr
  obtain ⟨fv, fp, fo, fr, fd, fh⟩ := hf
  simp only [Rq.agg, Rq.cells] at *
  obtain ⟨lv0, elv0⟩ : ∃ m, voted.length = m := ⟨_, rfl⟩
  obtain ⟨lp0, elp0⟩ : ∃ m, pr.length = m := ⟨_, rfl⟩
  obtain ⟨lo0, elo0⟩ : ∃ m, vo.length = m := ⟨_, rfl⟩
  obtain ⟨lr0, elr0⟩ : ∃ m, re.length = m := ⟨_, rfl⟩
  obtain ⟨ld0, eld0⟩ : ∃ m, ds.length = m := ⟨_, rfl⟩
  obtain ⟨lh0, elh0⟩ : ∃ m, hs.length = m := ⟨_, rfl⟩
  simp only [elv0, elp0, elo0, elr0, eld0, elh0] at H1 H2 ⊢
  have HZ := Lib.hid hz; clear hz elv0 elp0 elo0 elr0 eld0 elh0 rv rp ro rr rd rh fv fp fo fr fd fh
  have ka := Blk.new w 40 #[.int .i64 n, .int .i64 id, .int .i64 own, .int .i64 view, .int .i64 left, .slice Av lv0 cv, .int .i64 lv, .int .i64 lx, .int .i64 dn, .slice Ap lp0 cp, .slice Ao lo0 co, .slice Ar lr0 cr, .slice Ad ld0 cd, .slice Ah lh0 ch]
  have hB := up_ (Below.refl w.heap.size w) (.cells #[.int .i64 n, .int .i64 id, .int .i64 own, .int .i64 view, .int .i64 left, .slice Av lv0 cv, .int .i64 lv, .int .i64 lx, .int .i64 dn, .slice Ap lp0 cp, .slice Ao lo0 co, .slice Ar lr0 cr, .slice Ad ld0 cd, .slice Ah lh0 ch] 40)
  have ra := ka.rule
  go_enter Try.func17, Try.ntmps17
  go_wp2_with fail
  refine (H1.out _ hB).mono ?_
  rintro e w1 ⟨rfl, hb⟩
  have ka1 := ka.on hb; have hB1 := on_ hB hb; clear ra ka hB hb; have ra := ka1.rule
  rcases b1 with _ | _
  · go_wp2
    go_ret
    exact ⟨ret_bool (by rw [← HZ.out]; rfl), hB1⟩
  · go_wp2_with fail
    refine (H2.out _ hB1).mono ?_
    rintro e w2 ⟨rfl, hb⟩
    have ka2 := ka1.on hb; have hB2 := on_ hB1 hb; clear ra ka1 hB1 hb; have ra := ka2.rule
    rcases b2 with _ | _
    · by_cases hd : dn = 0
      · subst hd
        go_wp2
        go_ret
        exact ⟨ret_bool (by rw [← HZ.out]; simp), hB2⟩
      · have hd' : (dn == 0) = false := by simpa using hd
        have HD := Lib.hid hd; clear hd
        go_wp2
        go_ret
        exact ⟨ret_bool (by rw [← HZ.out]; simp [HD.out]), hB2⟩
    · go_wp2
      go_ret
      exact ⟨ret_bool (by rw [← HZ.out]; rfl), hB2⟩

set_option maxHeartbeats 1600000 in
theorem implWaits_is (z : Bool) (q : Rq) (hz : (repQ q.dat && (!(votedB q.voted q.view) && decide (q.dn = 0))) = z) (w : World) (hr : RdQ w w.heap.size q) (hf : FewQ q) :
    Calls Try.prog 18 #[q.agg] w fun e w' => e = .returned (.bool z) ∧ Below w.heap.size w w' := by
  obtain ⟨b1, hb1⟩ : ∃ b, repQ q.dat = b := ⟨_, rfl⟩
  obtain ⟨b2, hb2⟩ : ∃ b, votedB q.voted q.view = b := ⟨_, rfl⟩
  rw [hb1, hb2] at hz
  have H1 := Lib.hid (fun (W : World) (h : Below w.heap.size w W) => implRepOk_is b1 q hb1 W ((hr.below h).more h.size) hf)
  have H2 := Lib.hid (fun (W : World) (h : Below w.heap.size w W) => hasVoted_is b2 q hb2 W ((hr.below h).more h.size) hf)
  clear hb1 hb2
  obtain ⟨n, id, own, view, left, voted, lv, lx, dn, pr, vo, re, ds, hs, Av, Ap, Ao, Ar, Ad, Ah, cv, cp, co, cr, cd, ch⟩ := q
  obtain ⟨rv, rp, ro, rr, rd, rh⟩ := hr
  obtain ⟨fv, fp, fo, fr, fd, fh⟩ := hf
  simp only [Rq.agg, Rq.cells] at *
  obtain ⟨lv0, elv0⟩ : ∃ m, voted.length = m := ⟨_, rfl⟩
  obtain ⟨lp0, elp0⟩ : ∃ m, pr.length = m := ⟨_, rfl⟩
  obtain ⟨lo0, elo0⟩ : ∃ m, vo.length = m := ⟨_, rfl⟩
  obtain ⟨lr0, elr0⟩ : ∃ m, re.length = m := ⟨_, rfl⟩
  obtain ⟨ld0, eld0⟩ : ∃ m, ds.length = m := ⟨_, rfl⟩
  obtain ⟨lh0, elh0⟩ : ∃ m, hs.length = m := ⟨_, rfl⟩
  simp only [elv0, elp0, elo0, elr0, eld0, elh0] at H1 H2 ⊢
  have HZ := Lib.hid hz; clear hz elv0 elp0 elo0 elr0 eld0 elh0 rv rp ro rr rd rh fv fp fo fr fd fh
  have ka := Blk.new w 40 #[.int .i64 n, .int .i64 id, .int .i64 own, .int .i64 view, .int .i64 left, .slice Av lv0 cv, .int .i64 lv, .int .i64 lx, .int .i64 dn, .slice Ap lp0 cp, .slice Ao lo0 co, .slice Ar lr0 cr, .slice Ad ld0 cd, .slice Ah lh0 ch]
  have hB := up_ (Below.refl w.heap.size w) (.cells #[.int .i64 n, .int .i64 id, .int .i64 own, .int .i64 view, .int .i64 left, .slice Av lv0 cv, .int .i64 lv, .int .i64 lx, .int .i64 dn, .slice Ap lp0 cp, .slice Ao lo0 co, .slice Ar lr0 cr, .slice Ad ld0 cd, .slice Ah lh0 ch] 40)
  have ra := ka.rule
  go_enter Try.func18, Try.ntmps18
  go_wp2_with fail
  refine (H1.out _ hB).mono ?_
  rintro e w1 ⟨rfl, hb⟩
  have ka1 := ka.on hb; have hB1 := on_ hB hb; clear ra ka hB hb; have ra := ka1.rule
  rcases b1 with _ | _
  · go_wp2
    go_ret
    exact ⟨ret_bool (by rw [← HZ.out]; rfl), hB1⟩
  · go_wp2_with fail
    refine (H2.out _ hB1).mono ?_
    rintro e w2 ⟨rfl, hb⟩
    have ka2 := ka1.on hb; have hB2 := on_ hB1 hb; clear ra ka1 hB1 hb; have ra := ka2.rule
    rcases b2 with _ | _
    · by_cases hd : dn = 0
      · subst hd
        go_wp2
        go_ret
        exact ⟨ret_bool (by rw [← HZ.out]; simp), hB2⟩
      · have hd' : (dn == 0) = false := by simpa using hd
        have HD := Lib.hid hd; clear hd
        go_wp2
        go_ret
        exact ⟨ret_bool (by rw [← HZ.out]; simp [HD.out]), hB2⟩
    · go_wp2
      go_ret
      exact ⟨ret_bool (by rw [← HZ.out]; rfl), hB2⟩

end Go.Proofs.Ytmibimmjoaobcaa.V
