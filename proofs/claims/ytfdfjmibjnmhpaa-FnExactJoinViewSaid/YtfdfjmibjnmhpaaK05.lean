/-
  A replica's state copied and compared by the helpers of the laws. No statement is proved here.
-/
import Derived.Test.YtfdfjmibjnmhpaaK03
import Derived.Test.YtfdfjmibjnmhpaaK04
set_option linter.unusedVariables false
set_option maxRecDepth 100000
namespace Go.Proofs.Ytfdfjmibjnmhpaa.V
open Go.RowKit Go.Proofs.Ytfdfjmibjnmhpaa.B

theorem Rd.hiAt {w w' : World} {g Bd lo : Nat} {vs : List (Int × Int)} (h : Rd w Bd (some ⟨g, 0, none⟩) vs) (hl : lo ≤ g) (hk : ∀ b o, lo ≤ b → b < Bd → w'.cell? ⟨b, o, none⟩ = w.cell? ⟨b, o, none⟩) : Rd w' Bd (some ⟨g, 0, none⟩) vs := fun h0 => by
  obtain ⟨b, off, e, hb, hc⟩ := h h0
  injection e with e
  injection e with e1 e2
  subst e1 e2
  exact ⟨_, _, rfl, hb, fun i hi => ⟨(hk _ _ hl hb).trans (hc i hi).1, (hk _ _ hl hb).trans (hc i hi).2⟩⟩
theorem Rd3.hiAt {w w' : World} {g Bd lo : Nat} {vs : List B3} (h : Rd3 w Bd (some ⟨g, 0, none⟩) vs) (hl : lo ≤ g) (hk : ∀ b o, lo ≤ b → b < Bd → w'.cell? ⟨b, o, none⟩ = w.cell? ⟨b, o, none⟩) : Rd3 w' Bd (some ⟨g, 0, none⟩) vs := fun h0 => by
  obtain ⟨b, off, e, hb, hc⟩ := h h0
  injection e with e
  injection e with e1 e2
  subst e1 e2
  exact ⟨_, _, rfl, hb, fun i hi => ⟨(hk _ _ hl hb).trans (hc i hi).1, (hk _ _ hl hb).trans (hc i hi).2.1, (hk _ _ hl hb).trans (hc i hi).2.2⟩⟩

set_option maxHeartbeats 3200000 in
theorem toRep_hi (q : Rq) (w : World) (hr : RdQ w w.heap.size q) (hf : FewQ q) :
    Calls Try.prog 10 #[q.agg] w fun e w' => ∃ p : Rq, e = .returned p.agg ∧ p.dat = q.dat ∧ (Hi (fun u Bd => RdQ u Bd p) w' w.heap.size ∧ OwnQ w' w.heap.size p) ∧ Below w.heap.size w w' := by
  obtain ⟨n, id, own, view, left, voted, lv, lx, dn, pr, vo, re, ds, hs, Av, Ap, Ao, Ar, Ad, Ah, cv, cp, co, cr, cd, ch⟩ := q
  obtain ⟨rv, rp, ro, rr, rd, rh⟩ := hr
  obtain ⟨fv, fp, fo, fr, fd, fh⟩ := hf
  simp only [Rq.agg, Rq.cells] at *
  have HV := Lib.hid (fun (W : World) (h : Below w.heap.size w W) => toVoteS_any Av cv voted W ((rv.below h).more h.size) fv)
  have HP := Lib.hid (fun (W : World) (h : Below w.heap.size w W) => toTally_any Ap cp pr W ((rp.below h).more h.size) fp)
  have HO := Lib.hid (fun (W : World) (h : Below w.heap.size w W) => toTally_any Ao co vo W ((ro.below h).more h.size) fo)
  have HR := Lib.hid (fun (W : World) (h : Below w.heap.size w W) => toTally_any Ar cr re W ((rr.below h).more h.size) fr)
  have HD := Lib.hid (fun (W : World) (h : Below w.heap.size w W) => toTally_any Ad cd ds W ((rd.below h).more h.size) fd)
  have HH := Lib.hid (fun (W : World) (h : Below w.heap.size w W) => toHeardS_any Ah ch hs W ((rh.below h).more h.size) fh)
  clear rv rp ro rr rd rh fv fp fo fr fd fh
  obtain ⟨lv0, elv0⟩ : ∃ m, voted.length = m := ⟨_, rfl⟩
  simp only [elv0] at HV ⊢
  have Elv0 := Lib.hid elv0; clear elv0
  obtain ⟨lp0, elp0⟩ : ∃ m, pr.length = m := ⟨_, rfl⟩
  simp only [elp0] at HP ⊢
  have Elp0 := Lib.hid elp0; clear elp0
  obtain ⟨lo0, elo0⟩ : ∃ m, vo.length = m := ⟨_, rfl⟩
  simp only [elo0] at HO ⊢
  have Elo0 := Lib.hid elo0; clear elo0
  obtain ⟨lr0, elr0⟩ : ∃ m, re.length = m := ⟨_, rfl⟩
  simp only [elr0] at HR ⊢
  have Elr0 := Lib.hid elr0; clear elr0
  obtain ⟨ld0, eld0⟩ : ∃ m, ds.length = m := ⟨_, rfl⟩
  simp only [eld0] at HD ⊢
  have Eld0 := Lib.hid eld0; clear eld0
  obtain ⟨lh0, elh0⟩ : ∃ m, hs.length = m := ⟨_, rfl⟩
  simp only [elh0] at HH ⊢
  have Elh0 := Lib.hid elh0; clear elh0
  go_enter Try.func10, Try.ntmps10
  have ka := ((Blk.new w 30 #[.int .i64 n, .int .i64 id, .int .i64 own, .int .i64 view, .int .i64 left, .slice Av lv0 cv, .int .i64 lv, .int .i64 lx, .int .i64 dn, .slice Ap lp0 cp, .slice Ao lo0 co, .slice Ar lr0 cr, .slice Ad ld0 cd, .slice Ah lh0 ch]).alloc (.cells #[.int .i64 0, .int .i64 0, .int .i64 0, .int .i64 0, .int .i64 0, .slice none 0 0, .int .i64 0, .int .i64 0, .int .i64 0, .slice none 0 0, .slice none 0 0, .slice none 0 0, .slice none 0 0, .slice none 0 0] 40)).alloc (.cells #[.int .i64 n, .int .i64 id, .int .i64 own, .int .i64 view, .int .i64 left, .slice none 0 0, .int .i64 0, .int .i64 0, .int .i64 0, .slice none 0 0, .slice none 0 0, .slice none 0 0, .slice none 0 0, .slice none 0 0] 40)
  have kr := (Blk.new (w.alloc (.cells #[.int .i64 n, .int .i64 id, .int .i64 own, .int .i64 view, .int .i64 left, .slice Av lv0 cv, .int .i64 lv, .int .i64 lx, .int .i64 dn, .slice Ap lp0 cp, .slice Ao lo0 co, .slice Ar lr0 cr, .slice Ad ld0 cd, .slice Ah lh0 ch] 30)) 40 #[.int .i64 0, .int .i64 0, .int .i64 0, .int .i64 0, .int .i64 0, .slice none 0 0, .int .i64 0, .int .i64 0, .int .i64 0, .slice none 0 0, .slice none 0 0, .slice none 0 0, .slice none 0 0, .slice none 0 0]).alloc (.cells #[.int .i64 n, .int .i64 id, .int .i64 own, .int .i64 view, .int .i64 left, .slice none 0 0, .int .i64 0, .int .i64 0, .int .i64 0, .slice none 0 0, .slice none 0 0, .slice none 0 0, .slice none 0 0, .slice none 0 0] 40)
  have ko := Blk.new ((w.alloc (.cells #[.int .i64 n, .int .i64 id, .int .i64 own, .int .i64 view, .int .i64 left, .slice Av lv0 cv, .int .i64 lv, .int .i64 lx, .int .i64 dn, .slice Ap lp0 cp, .slice Ao lo0 co, .slice Ar lr0 cr, .slice Ad ld0 cd, .slice Ah lh0 ch] 30)).alloc (.cells #[.int .i64 0, .int .i64 0, .int .i64 0, .int .i64 0, .int .i64 0, .slice none 0 0, .int .i64 0, .int .i64 0, .int .i64 0, .slice none 0 0, .slice none 0 0, .slice none 0 0, .slice none 0 0, .slice none 0 0] 40)) 40 #[.int .i64 n, .int .i64 id, .int .i64 own, .int .i64 view, .int .i64 left, .slice none 0 0, .int .i64 0, .int .i64 0, .int .i64 0, .slice none 0 0, .slice none 0 0, .slice none 0 0, .slice none 0 0, .slice none 0 0]
  have hB : Below w.heap.size w (((w.alloc (.cells #[.int .i64 n, .int .i64 id, .int .i64 own, .int .i64 view, .int .i64 left, .slice Av lv0 cv, .int .i64 lv, .int .i64 lx, .int .i64 dn, .slice Ap lp0 cp, .slice Ao lo0 co, .slice Ar lr0 cr, .slice Ad ld0 cd, .slice Ah lh0 ch] 30)).alloc (.cells #[.int .i64 0, .int .i64 0, .int .i64 0, .int .i64 0, .int .i64 0, .slice none 0 0, .int .i64 0, .int .i64 0, .int .i64 0, .slice none 0 0, .slice none 0 0, .slice none 0 0, .slice none 0 0, .slice none 0 0] 40)).alloc (.cells #[.int .i64 n, .int .i64 id, .int .i64 own, .int .i64 view, .int .i64 left, .slice none 0 0, .int .i64 0, .int .i64 0, .int .i64 0, .slice none 0 0, .slice none 0 0, .slice none 0 0, .slice none 0 0, .slice none 0 0] 40)) := up_ (up_ (up_ (Below.refl w.heap.size w) _) _) _
  have hz : w.heap.size + 3 ≤ (((w.alloc (.cells #[.int .i64 n, .int .i64 id, .int .i64 own, .int .i64 view, .int .i64 left, .slice Av lv0 cv, .int .i64 lv, .int .i64 lx, .int .i64 dn, .slice Ap lp0 cp, .slice Ao lo0 co, .slice Ar lr0 cr, .slice Ad ld0 cd, .slice Ah lh0 ch] 30)).alloc (.cells #[.int .i64 0, .int .i64 0, .int .i64 0, .int .i64 0, .int .i64 0, .slice none 0 0, .int .i64 0, .int .i64 0, .int .i64 0, .slice none 0 0, .slice none 0 0, .slice none 0 0, .slice none 0 0, .slice none 0 0] 40)).alloc (.cells #[.int .i64 n, .int .i64 id, .int .i64 own, .int .i64 view, .int .i64 left, .slice none 0 0, .int .i64 0, .int .i64 0, .int .i64 0, .slice none 0 0, .slice none 0 0, .slice none 0 0, .slice none 0 0, .slice none 0 0] 40)).heap.size := by simp
  simp only [World.size_alloc] at ko kr
  have ra := ka.rule
  go_wp2_with fail
  refine (HV.out _ hB).mono ?_
  rintro e w1 ⟨gv, csv, rfl, hgv, bv, hpv, hb⟩
  have ka1 := ka.on hb; have kr1 := kr.on hb; have ko1 := ko.on hb; have hB1 := on_ hB hb; have hz1 := hb.size
  have hggv : w.heap.size + 3 ≤ gv := by omega
  have hz' : w.heap.size + 3 ≤ w1.heap.size := by omega
  clear hb ka kr ko hB hz hz1 ra
  have ka := ka1; have kr := kr1; have ko := ko1; have hB := hB1; have hz := hz'; clear ka1 kr1 ko1 hB1 hz'
  have ra := ka.rule; have ro := ko.rule; have fo := fun i => ko.frozen i
  have HPV := Lib.hid hpv; clear hpv hgv
  have ko2 : Blk (w1.setCell ⟨w.heap.size + 1 + 1, 5, none⟩ (.slice (some ⟨gv, 0, none⟩) lv0 lv0)) (w.heap.size + 1 + 1) 40 #[.int .i64 n, .int .i64 id, .int .i64 own, .int .i64 view, .int .i64 left, .slice (some ⟨gv, 0, none⟩) lv0 lv0, .int .i64 0, .int .i64 0, .int .i64 0, .slice none 0 0, .slice none 0 0, .slice none 0 0, .slice none 0 0, .slice none 0 0] := ko.set_ 5 _
  have kr2 := kr.far (p := ⟨w.heap.size + 1 + 1, 5, none⟩) (by simp) (.slice (some ⟨gv, 0, none⟩) lv0 lv0)
  have ka2 := ka.far (p := ⟨w.heap.size + 1 + 1, 5, none⟩) (by simp; omega) (.slice (some ⟨gv, 0, none⟩) lv0 lv0)
  have bv2 := bv.far (p := ⟨w.heap.size + 1 + 1, 5, none⟩) (by simp; omega) (.slice (some ⟨gv, 0, none⟩) lv0 lv0)
  have hB2 : Below w.heap.size w (w1.setCell ⟨w.heap.size + 1 + 1, 5, none⟩ (.slice (some ⟨gv, 0, none⟩) lv0 lv0)) := hB.setCell (by simp; omega) _
  have hz2 : w.heap.size + 3 ≤ (w1.setCell ⟨w.heap.size + 1 + 1, 5, none⟩ (.slice (some ⟨gv, 0, none⟩) lv0 lv0)).heap.size := Nat.le_trans hz (by simp [World.setCell])
  clear ka kr ko hB hz
  have ka := ka2; have kr := kr2; have ko := ko2; have hB := hB2; have hz := hz2; clear ka2 kr2 ko2 hB2 hz2
  clear bv; have bv := bv2; clear bv2
  have ra1 := ka.rule; have ro1 := ko.rule; have fo1 := fun i => ko.frozen i
  go_wp2_with fail
  clear ra1 ro1 fo1
  clear ro fo
  refine (toVote_any lv lx _).mono ?_
  rintro e w2 ⟨rfl, hb⟩
  have ka2 := ka.on hb; have kr2 := kr.on hb; have ko2 := ko.on hb; have hB2 := on_ hB hb; have hz2 := hb.size
  have bv' := bv.on hb; clear bv; have bv := bv'; clear bv'
  have hz' : w.heap.size + 3 ≤ w2.heap.size := by omega
  clear hb ka kr ko hB hz hz2 ra
  have ka := ka2; have kr := kr2; have ko := ko2; have hB := hB2; have hz := hz'; clear ka2 kr2 ko2 hB2 hz'
  have ra := ka.rule; have ro := ko.rule; have fo := fun i => ko.frozen i
  have ko2 : Blk (w2.setCell ⟨w.heap.size + 1 + 1, 6, none⟩ (.int .i64 lv)) (w.heap.size + 1 + 1) 40 #[.int .i64 n, .int .i64 id, .int .i64 own, .int .i64 view, .int .i64 left, .slice (some ⟨gv, 0, none⟩) lv0 lv0, .int .i64 lv, .int .i64 0, .int .i64 0, .slice none 0 0, .slice none 0 0, .slice none 0 0, .slice none 0 0, .slice none 0 0] := ko.set_ 6 _
  have kr2 := kr.far (p := ⟨w.heap.size + 1 + 1, 6, none⟩) (by simp) (.int .i64 lv)
  have ka2 := ka.far (p := ⟨w.heap.size + 1 + 1, 6, none⟩) (by simp; omega) (.int .i64 lv)
  have bv2 := bv.far (p := ⟨w.heap.size + 1 + 1, 6, none⟩) (by simp; omega) (.int .i64 lv)
  have hB2 : Below w.heap.size w (w2.setCell ⟨w.heap.size + 1 + 1, 6, none⟩ (.int .i64 lv)) := hB.setCell (by simp; omega) _
  have hz2 : w.heap.size + 3 ≤ (w2.setCell ⟨w.heap.size + 1 + 1, 6, none⟩ (.int .i64 lv)).heap.size := Nat.le_trans hz (by simp [World.setCell])
  clear ka kr ko hB hz
  have ka := ka2; have kr := kr2; have ko := ko2; have hB := hB2; have hz := hz2; clear ka2 kr2 ko2 hB2 hz2
  clear bv; have bv := bv2; clear bv2
  have ra1 := ka.rule; have ro1 := ko.rule; have fo1 := fun i => ko.frozen i
  have ko2 : Blk ((w2.setCell ⟨w.heap.size + 1 + 1, 6, none⟩ (.int .i64 lv)).setCell ⟨w.heap.size + 1 + 1, 7, none⟩ (.int .i64 lx)) (w.heap.size + 1 + 1) 40 #[.int .i64 n, .int .i64 id, .int .i64 own, .int .i64 view, .int .i64 left, .slice (some ⟨gv, 0, none⟩) lv0 lv0, .int .i64 lv, .int .i64 lx, .int .i64 0, .slice none 0 0, .slice none 0 0, .slice none 0 0, .slice none 0 0, .slice none 0 0] := ko.set_ 7 _
  have kr2 := kr.far (p := ⟨w.heap.size + 1 + 1, 7, none⟩) (by simp) (.int .i64 lx)
  have ka2 := ka.far (p := ⟨w.heap.size + 1 + 1, 7, none⟩) (by simp; omega) (.int .i64 lx)
  have bv2 := bv.far (p := ⟨w.heap.size + 1 + 1, 7, none⟩) (by simp; omega) (.int .i64 lx)
  have hB2 : Below w.heap.size w ((w2.setCell ⟨w.heap.size + 1 + 1, 6, none⟩ (.int .i64 lv)).setCell ⟨w.heap.size + 1 + 1, 7, none⟩ (.int .i64 lx)) := hB.setCell (by simp; omega) _
  have hz2 : w.heap.size + 3 ≤ ((w2.setCell ⟨w.heap.size + 1 + 1, 6, none⟩ (.int .i64 lv)).setCell ⟨w.heap.size + 1 + 1, 7, none⟩ (.int .i64 lx)).heap.size := Nat.le_trans hz (by simp [World.setCell])
  clear ka kr ko hB hz
  have ka := ka2; have kr := kr2; have ko := ko2; have hB := hB2; have hz := hz2; clear ka2 kr2 ko2 hB2 hz2
  clear bv; have bv := bv2; clear bv2
  have ra2 := ka.rule; have ro2 := ko.rule; have fo2 := fun i => ko.frozen i
  have ko2 : Blk (((w2.setCell ⟨w.heap.size + 1 + 1, 6, none⟩ (.int .i64 lv)).setCell ⟨w.heap.size + 1 + 1, 7, none⟩ (.int .i64 lx)).setCell ⟨w.heap.size + 1 + 1, 8, none⟩ (.int .i64 dn)) (w.heap.size + 1 + 1) 40 #[.int .i64 n, .int .i64 id, .int .i64 own, .int .i64 view, .int .i64 left, .slice (some ⟨gv, 0, none⟩) lv0 lv0, .int .i64 lv, .int .i64 lx, .int .i64 dn, .slice none 0 0, .slice none 0 0, .slice none 0 0, .slice none 0 0, .slice none 0 0] := ko.set_ 8 _
  have kr2 := kr.far (p := ⟨w.heap.size + 1 + 1, 8, none⟩) (by simp) (.int .i64 dn)
  have ka2 := ka.far (p := ⟨w.heap.size + 1 + 1, 8, none⟩) (by simp; omega) (.int .i64 dn)
  have bv2 := bv.far (p := ⟨w.heap.size + 1 + 1, 8, none⟩) (by simp; omega) (.int .i64 dn)
  have hB2 : Below w.heap.size w (((w2.setCell ⟨w.heap.size + 1 + 1, 6, none⟩ (.int .i64 lv)).setCell ⟨w.heap.size + 1 + 1, 7, none⟩ (.int .i64 lx)).setCell ⟨w.heap.size + 1 + 1, 8, none⟩ (.int .i64 dn)) := hB.setCell (by simp; omega) _
  have hz2 : w.heap.size + 3 ≤ (((w2.setCell ⟨w.heap.size + 1 + 1, 6, none⟩ (.int .i64 lv)).setCell ⟨w.heap.size + 1 + 1, 7, none⟩ (.int .i64 lx)).setCell ⟨w.heap.size + 1 + 1, 8, none⟩ (.int .i64 dn)).heap.size := Nat.le_trans hz (by simp [World.setCell])
  clear ka kr ko hB hz
  have ka := ka2; have kr := kr2; have ko := ko2; have hB := hB2; have hz := hz2; clear ka2 kr2 ko2 hB2 hz2
  clear bv; have bv := bv2; clear bv2
  have ra3 := ka.rule; have ro3 := ko.rule; have fo3 := fun i => ko.frozen i
  go_wp2_with fail
  clear ra1 ro1 fo1 ra2 ro2 fo2 ra3 ro3 fo3
  clear ro fo
  refine (HP.out _ hB).mono ?_
  rintro e w3 ⟨gp, csp, rfl, hgp, bp, hpp, hb⟩
  have ka3 := ka.on hb; have kr3 := kr.on hb; have ko3 := ko.on hb; have hB3 := on_ hB hb; have hz3 := hb.size
  have bv' := bv.on hb; clear bv; have bv := bv'; clear bv'
  have hggp : w.heap.size + 3 ≤ gp := by omega
  have hz' : w.heap.size + 3 ≤ w3.heap.size := by omega
  clear hb ka kr ko hB hz hz3 ra
  have ka := ka3; have kr := kr3; have ko := ko3; have hB := hB3; have hz := hz'; clear ka3 kr3 ko3 hB3 hz'
  have ra := ka.rule; have ro := ko.rule; have fo := fun i => ko.frozen i
  have HPP := Lib.hid hpp; clear hpp hgp
  have ko2 : Blk (w3.setCell ⟨w.heap.size + 1 + 1, 9, none⟩ (.slice (some ⟨gp, 0, none⟩) lp0 lp0)) (w.heap.size + 1 + 1) 40 #[.int .i64 n, .int .i64 id, .int .i64 own, .int .i64 view, .int .i64 left, .slice (some ⟨gv, 0, none⟩) lv0 lv0, .int .i64 lv, .int .i64 lx, .int .i64 dn, .slice (some ⟨gp, 0, none⟩) lp0 lp0, .slice none 0 0, .slice none 0 0, .slice none 0 0, .slice none 0 0] := ko.set_ 9 _
  have kr2 := kr.far (p := ⟨w.heap.size + 1 + 1, 9, none⟩) (by simp) (.slice (some ⟨gp, 0, none⟩) lp0 lp0)
  have ka2 := ka.far (p := ⟨w.heap.size + 1 + 1, 9, none⟩) (by simp; omega) (.slice (some ⟨gp, 0, none⟩) lp0 lp0)
  have bv2 := bv.far (p := ⟨w.heap.size + 1 + 1, 9, none⟩) (by simp; omega) (.slice (some ⟨gp, 0, none⟩) lp0 lp0)
  have bp2 := bp.far (p := ⟨w.heap.size + 1 + 1, 9, none⟩) (by simp; omega) (.slice (some ⟨gp, 0, none⟩) lp0 lp0)
  have hB2 : Below w.heap.size w (w3.setCell ⟨w.heap.size + 1 + 1, 9, none⟩ (.slice (some ⟨gp, 0, none⟩) lp0 lp0)) := hB.setCell (by simp; omega) _
  have hz2 : w.heap.size + 3 ≤ (w3.setCell ⟨w.heap.size + 1 + 1, 9, none⟩ (.slice (some ⟨gp, 0, none⟩) lp0 lp0)).heap.size := Nat.le_trans hz (by simp [World.setCell])
  clear ka kr ko hB hz
  have ka := ka2; have kr := kr2; have ko := ko2; have hB := hB2; have hz := hz2; clear ka2 kr2 ko2 hB2 hz2
  clear bv; have bv := bv2; clear bv2
  clear bp; have bp := bp2; clear bp2
  have ra1 := ka.rule; have ro1 := ko.rule; have fo1 := fun i => ko.frozen i
  go_wp2_with fail
  clear ra1 ro1 fo1
  clear ro fo
  refine (HO.out _ hB).mono ?_
  rintro e w4 ⟨go, cso, rfl, hgo, bo, hpo, hb⟩
  have ka4 := ka.on hb; have kr4 := kr.on hb; have ko4 := ko.on hb; have hB4 := on_ hB hb; have hz4 := hb.size
  have bv' := bv.on hb; clear bv; have bv := bv'; clear bv'
  have bp' := bp.on hb; clear bp; have bp := bp'; clear bp'
  have hggo : w.heap.size + 3 ≤ go := by omega
  have hz' : w.heap.size + 3 ≤ w4.heap.size := by omega
  clear hb ka kr ko hB hz hz4 ra
  have ka := ka4; have kr := kr4; have ko := ko4; have hB := hB4; have hz := hz'; clear ka4 kr4 ko4 hB4 hz'
  have ra := ka.rule; have ro := ko.rule; have fo := fun i => ko.frozen i
  have HPO := Lib.hid hpo; clear hpo hgo
  have ko2 : Blk (w4.setCell ⟨w.heap.size + 1 + 1, 10, none⟩ (.slice (some ⟨go, 0, none⟩) lo0 lo0)) (w.heap.size + 1 + 1) 40 #[.int .i64 n, .int .i64 id, .int .i64 own, .int .i64 view, .int .i64 left, .slice (some ⟨gv, 0, none⟩) lv0 lv0, .int .i64 lv, .int .i64 lx, .int .i64 dn, .slice (some ⟨gp, 0, none⟩) lp0 lp0, .slice (some ⟨go, 0, none⟩) lo0 lo0, .slice none 0 0, .slice none 0 0, .slice none 0 0] := ko.set_ 10 _
  have kr2 := kr.far (p := ⟨w.heap.size + 1 + 1, 10, none⟩) (by simp) (.slice (some ⟨go, 0, none⟩) lo0 lo0)
  have ka2 := ka.far (p := ⟨w.heap.size + 1 + 1, 10, none⟩) (by simp; omega) (.slice (some ⟨go, 0, none⟩) lo0 lo0)
  have bv2 := bv.far (p := ⟨w.heap.size + 1 + 1, 10, none⟩) (by simp; omega) (.slice (some ⟨go, 0, none⟩) lo0 lo0)
  have bp2 := bp.far (p := ⟨w.heap.size + 1 + 1, 10, none⟩) (by simp; omega) (.slice (some ⟨go, 0, none⟩) lo0 lo0)
  have bo2 := bo.far (p := ⟨w.heap.size + 1 + 1, 10, none⟩) (by simp; omega) (.slice (some ⟨go, 0, none⟩) lo0 lo0)
  have hB2 : Below w.heap.size w (w4.setCell ⟨w.heap.size + 1 + 1, 10, none⟩ (.slice (some ⟨go, 0, none⟩) lo0 lo0)) := hB.setCell (by simp; omega) _
  have hz2 : w.heap.size + 3 ≤ (w4.setCell ⟨w.heap.size + 1 + 1, 10, none⟩ (.slice (some ⟨go, 0, none⟩) lo0 lo0)).heap.size := Nat.le_trans hz (by simp [World.setCell])
  clear ka kr ko hB hz
  have ka := ka2; have kr := kr2; have ko := ko2; have hB := hB2; have hz := hz2; clear ka2 kr2 ko2 hB2 hz2
  clear bv; have bv := bv2; clear bv2
  clear bp; have bp := bp2; clear bp2
  clear bo; have bo := bo2; clear bo2
  have ra1 := ka.rule; have ro1 := ko.rule; have fo1 := fun i => ko.frozen i
  go_wp2_with fail
  clear ra1 ro1 fo1
  clear ro fo
  refine (HR.out _ hB).mono ?_
  rintro e w5 ⟨gr, csr, rfl, hgr, br, hpr, hb⟩
  have ka5 := ka.on hb; have kr5 := kr.on hb; have ko5 := ko.on hb; have hB5 := on_ hB hb; have hz5 := hb.size
  have bv' := bv.on hb; clear bv; have bv := bv'; clear bv'
  have bp' := bp.on hb; clear bp; have bp := bp'; clear bp'
  have bo' := bo.on hb; clear bo; have bo := bo'; clear bo'
  have hggr : w.heap.size + 3 ≤ gr := by omega
  have hz' : w.heap.size + 3 ≤ w5.heap.size := by omega
  clear hb ka kr ko hB hz hz5 ra
  have ka := ka5; have kr := kr5; have ko := ko5; have hB := hB5; have hz := hz'; clear ka5 kr5 ko5 hB5 hz'
  have ra := ka.rule; have ro := ko.rule; have fo := fun i => ko.frozen i
  have HPR := Lib.hid hpr; clear hpr hgr
  have ko2 : Blk (w5.setCell ⟨w.heap.size + 1 + 1, 11, none⟩ (.slice (some ⟨gr, 0, none⟩) lr0 lr0)) (w.heap.size + 1 + 1) 40 #[.int .i64 n, .int .i64 id, .int .i64 own, .int .i64 view, .int .i64 left, .slice (some ⟨gv, 0, none⟩) lv0 lv0, .int .i64 lv, .int .i64 lx, .int .i64 dn, .slice (some ⟨gp, 0, none⟩) lp0 lp0, .slice (some ⟨go, 0, none⟩) lo0 lo0, .slice (some ⟨gr, 0, none⟩) lr0 lr0, .slice none 0 0, .slice none 0 0] := ko.set_ 11 _
  have kr2 := kr.far (p := ⟨w.heap.size + 1 + 1, 11, none⟩) (by simp) (.slice (some ⟨gr, 0, none⟩) lr0 lr0)
  have ka2 := ka.far (p := ⟨w.heap.size + 1 + 1, 11, none⟩) (by simp; omega) (.slice (some ⟨gr, 0, none⟩) lr0 lr0)
  have bv2 := bv.far (p := ⟨w.heap.size + 1 + 1, 11, none⟩) (by simp; omega) (.slice (some ⟨gr, 0, none⟩) lr0 lr0)
  have bp2 := bp.far (p := ⟨w.heap.size + 1 + 1, 11, none⟩) (by simp; omega) (.slice (some ⟨gr, 0, none⟩) lr0 lr0)
  have bo2 := bo.far (p := ⟨w.heap.size + 1 + 1, 11, none⟩) (by simp; omega) (.slice (some ⟨gr, 0, none⟩) lr0 lr0)
  have br2 := br.far (p := ⟨w.heap.size + 1 + 1, 11, none⟩) (by simp; omega) (.slice (some ⟨gr, 0, none⟩) lr0 lr0)
  have hB2 : Below w.heap.size w (w5.setCell ⟨w.heap.size + 1 + 1, 11, none⟩ (.slice (some ⟨gr, 0, none⟩) lr0 lr0)) := hB.setCell (by simp; omega) _
  have hz2 : w.heap.size + 3 ≤ (w5.setCell ⟨w.heap.size + 1 + 1, 11, none⟩ (.slice (some ⟨gr, 0, none⟩) lr0 lr0)).heap.size := Nat.le_trans hz (by simp [World.setCell])
  clear ka kr ko hB hz
  have ka := ka2; have kr := kr2; have ko := ko2; have hB := hB2; have hz := hz2; clear ka2 kr2 ko2 hB2 hz2
  clear bv; have bv := bv2; clear bv2
  clear bp; have bp := bp2; clear bp2
  clear bo; have bo := bo2; clear bo2
  clear br; have br := br2; clear br2
  have ra1 := ka.rule; have ro1 := ko.rule; have fo1 := fun i => ko.frozen i
  go_wp2_with fail
  clear ra1 ro1 fo1
  clear ro fo
  refine (HD.out _ hB).mono ?_
  rintro e w6 ⟨gd, csd, rfl, hgd, bd, hpd, hb⟩
  have ka6 := ka.on hb; have kr6 := kr.on hb; have ko6 := ko.on hb; have hB6 := on_ hB hb; have hz6 := hb.size
  have bv' := bv.on hb; clear bv; have bv := bv'; clear bv'
  have bp' := bp.on hb; clear bp; have bp := bp'; clear bp'
  have bo' := bo.on hb; clear bo; have bo := bo'; clear bo'
  have br' := br.on hb; clear br; have br := br'; clear br'
  have hggd : w.heap.size + 3 ≤ gd := by omega
  have hz' : w.heap.size + 3 ≤ w6.heap.size := by omega
  clear hb ka kr ko hB hz hz6 ra
  have ka := ka6; have kr := kr6; have ko := ko6; have hB := hB6; have hz := hz'; clear ka6 kr6 ko6 hB6 hz'
  have ra := ka.rule; have ro := ko.rule; have fo := fun i => ko.frozen i
  have HPD := Lib.hid hpd; clear hpd hgd
  have ko2 : Blk (w6.setCell ⟨w.heap.size + 1 + 1, 12, none⟩ (.slice (some ⟨gd, 0, none⟩) ld0 ld0)) (w.heap.size + 1 + 1) 40 #[.int .i64 n, .int .i64 id, .int .i64 own, .int .i64 view, .int .i64 left, .slice (some ⟨gv, 0, none⟩) lv0 lv0, .int .i64 lv, .int .i64 lx, .int .i64 dn, .slice (some ⟨gp, 0, none⟩) lp0 lp0, .slice (some ⟨go, 0, none⟩) lo0 lo0, .slice (some ⟨gr, 0, none⟩) lr0 lr0, .slice (some ⟨gd, 0, none⟩) ld0 ld0, .slice none 0 0] := ko.set_ 12 _
  have kr2 := kr.far (p := ⟨w.heap.size + 1 + 1, 12, none⟩) (by simp) (.slice (some ⟨gd, 0, none⟩) ld0 ld0)
  have ka2 := ka.far (p := ⟨w.heap.size + 1 + 1, 12, none⟩) (by simp; omega) (.slice (some ⟨gd, 0, none⟩) ld0 ld0)
  have bv2 := bv.far (p := ⟨w.heap.size + 1 + 1, 12, none⟩) (by simp; omega) (.slice (some ⟨gd, 0, none⟩) ld0 ld0)
  have bp2 := bp.far (p := ⟨w.heap.size + 1 + 1, 12, none⟩) (by simp; omega) (.slice (some ⟨gd, 0, none⟩) ld0 ld0)
  have bo2 := bo.far (p := ⟨w.heap.size + 1 + 1, 12, none⟩) (by simp; omega) (.slice (some ⟨gd, 0, none⟩) ld0 ld0)
  have br2 := br.far (p := ⟨w.heap.size + 1 + 1, 12, none⟩) (by simp; omega) (.slice (some ⟨gd, 0, none⟩) ld0 ld0)
  have bd2 := bd.far (p := ⟨w.heap.size + 1 + 1, 12, none⟩) (by simp; omega) (.slice (some ⟨gd, 0, none⟩) ld0 ld0)
  have hB2 : Below w.heap.size w (w6.setCell ⟨w.heap.size + 1 + 1, 12, none⟩ (.slice (some ⟨gd, 0, none⟩) ld0 ld0)) := hB.setCell (by simp; omega) _
  have hz2 : w.heap.size + 3 ≤ (w6.setCell ⟨w.heap.size + 1 + 1, 12, none⟩ (.slice (some ⟨gd, 0, none⟩) ld0 ld0)).heap.size := Nat.le_trans hz (by simp [World.setCell])
  clear ka kr ko hB hz
  have ka := ka2; have kr := kr2; have ko := ko2; have hB := hB2; have hz := hz2; clear ka2 kr2 ko2 hB2 hz2
  clear bv; have bv := bv2; clear bv2
  clear bp; have bp := bp2; clear bp2
  clear bo; have bo := bo2; clear bo2
  clear br; have br := br2; clear br2
  clear bd; have bd := bd2; clear bd2
  have ra1 := ka.rule; have ro1 := ko.rule; have fo1 := fun i => ko.frozen i
  go_wp2_with fail
  clear ra1 ro1 fo1
  clear ro fo
  refine (HH.out _ hB).mono ?_
  rintro e w7 ⟨gh, csh, qs, rfl, hgh, bh, hph, hb⟩
  have ka7 := ka.on hb; have kr7 := kr.on hb; have ko7 := ko.on hb; have hB7 := on_ hB hb; have hz7 := hb.size
  have bv' := bv.on hb; clear bv; have bv := bv'; clear bv'
  have bp' := bp.on hb; clear bp; have bp := bp'; clear bp'
  have bo' := bo.on hb; clear bo; have bo := bo'; clear bo'
  have br' := br.on hb; clear br; have br := br'; clear br'
  have bd' := bd.on hb; clear bd; have bd := bd'; clear bd'
  have hggh : w.heap.size + 3 ≤ gh := by omega
  have hz' : w.heap.size + 3 ≤ w7.heap.size := by omega
  clear hb ka kr ko hB hz hz7 ra
  have ka := ka7; have kr := kr7; have ko := ko7; have hB := hB7; have hz := hz'; clear ka7 kr7 ko7 hB7 hz'
  have ra := ka.rule; have ro := ko.rule; have fo := fun i => ko.frozen i
  have HX := Lib.hid (show ∀ i, i < lh0 → HiR w7 (w.heap.size + 3) (qs.getD i zH).A (qs.getD i zH).ps from fun i hi => (hph.2.2.2 i hi).2.low (by omega))
  have HPH := Lib.hid hph; clear hph hgh
  have ko2 : Blk (w7.setCell ⟨w.heap.size + 1 + 1, 13, none⟩ (.slice (some ⟨gh, 0, none⟩) lh0 lh0)) (w.heap.size + 1 + 1) 40 #[.int .i64 n, .int .i64 id, .int .i64 own, .int .i64 view, .int .i64 left, .slice (some ⟨gv, 0, none⟩) lv0 lv0, .int .i64 lv, .int .i64 lx, .int .i64 dn, .slice (some ⟨gp, 0, none⟩) lp0 lp0, .slice (some ⟨go, 0, none⟩) lo0 lo0, .slice (some ⟨gr, 0, none⟩) lr0 lr0, .slice (some ⟨gd, 0, none⟩) ld0 ld0, .slice (some ⟨gh, 0, none⟩) lh0 lh0] := ko.set_ 13 _
  have kr2 := kr.far (p := ⟨w.heap.size + 1 + 1, 13, none⟩) (by simp) (.slice (some ⟨gh, 0, none⟩) lh0 lh0)
  have ka2 := ka.far (p := ⟨w.heap.size + 1 + 1, 13, none⟩) (by simp; omega) (.slice (some ⟨gh, 0, none⟩) lh0 lh0)
  have bv2 := bv.far (p := ⟨w.heap.size + 1 + 1, 13, none⟩) (by simp; omega) (.slice (some ⟨gh, 0, none⟩) lh0 lh0)
  have bp2 := bp.far (p := ⟨w.heap.size + 1 + 1, 13, none⟩) (by simp; omega) (.slice (some ⟨gh, 0, none⟩) lh0 lh0)
  have bo2 := bo.far (p := ⟨w.heap.size + 1 + 1, 13, none⟩) (by simp; omega) (.slice (some ⟨gh, 0, none⟩) lh0 lh0)
  have br2 := br.far (p := ⟨w.heap.size + 1 + 1, 13, none⟩) (by simp; omega) (.slice (some ⟨gh, 0, none⟩) lh0 lh0)
  have bd2 := bd.far (p := ⟨w.heap.size + 1 + 1, 13, none⟩) (by simp; omega) (.slice (some ⟨gh, 0, none⟩) lh0 lh0)
  have bh2 := bh.far (p := ⟨w.heap.size + 1 + 1, 13, none⟩) (by simp; omega) (.slice (some ⟨gh, 0, none⟩) lh0 lh0)
  have hB2 : Below w.heap.size w (w7.setCell ⟨w.heap.size + 1 + 1, 13, none⟩ (.slice (some ⟨gh, 0, none⟩) lh0 lh0)) := hB.setCell (by simp; omega) _
  have hz2 : w.heap.size + 3 ≤ (w7.setCell ⟨w.heap.size + 1 + 1, 13, none⟩ (.slice (some ⟨gh, 0, none⟩) lh0 lh0)).heap.size := Nat.le_trans hz (by simp [World.setCell])
  clear ka kr ko hB hz
  have ka := ka2; have kr := kr2; have ko := ko2; have hB := hB2; have hz := hz2; clear ka2 kr2 ko2 hB2 hz2
  clear bv; have bv := bv2; clear bv2
  clear bp; have bp := bp2; clear bp2
  clear bo; have bo := bo2; clear bo2
  clear br; have br := br2; clear br2
  clear bd; have bd := bd2; clear bd2
  clear bh; have bh := bh2; clear bh2
  have ra1 := ka.rule; have ro1 := ko.rule; have fo1 := fun i => ko.frozen i
  have kr2 : Blk ((w7.setCell ⟨w.heap.size + 1 + 1, 13, none⟩ (.slice (some ⟨gh, 0, none⟩) lh0 lh0)).setCell ⟨w.heap.size + 1, 0, none⟩ (.int .i64 n)) (w.heap.size + 1) 40 #[.int .i64 n, .int .i64 0, .int .i64 0, .int .i64 0, .int .i64 0, .slice none 0 0, .int .i64 0, .int .i64 0, .int .i64 0, .slice none 0 0, .slice none 0 0, .slice none 0 0, .slice none 0 0, .slice none 0 0] := kr.set_ 0 _
  have rr0 := kr.rule; have fr0 := fun i => kr.frozen i
  have hB2 : Below w.heap.size w ((w7.setCell ⟨w.heap.size + 1 + 1, 13, none⟩ (.slice (some ⟨gh, 0, none⟩) lh0 lh0)).setCell ⟨w.heap.size + 1, 0, none⟩ (.int .i64 n)) := hB.setCell (by simp) _
  have bv2 := bv.far (p := ⟨w.heap.size + 1, 0, none⟩) (by simp; omega) (.int .i64 n)
  have bp2 := bp.far (p := ⟨w.heap.size + 1, 0, none⟩) (by simp; omega) (.int .i64 n)
  have bo2 := bo.far (p := ⟨w.heap.size + 1, 0, none⟩) (by simp; omega) (.int .i64 n)
  have br2 := br.far (p := ⟨w.heap.size + 1, 0, none⟩) (by simp; omega) (.int .i64 n)
  have bd2 := bd.far (p := ⟨w.heap.size + 1, 0, none⟩) (by simp; omega) (.int .i64 n)
  have bh2 := bh.far (p := ⟨w.heap.size + 1, 0, none⟩) (by simp; omega) (.int .i64 n)
  clear kr hB; have kr := kr2; have hB := hB2; clear kr2 hB2
  clear bv; have bv := bv2; clear bv2
  clear bp; have bp := bp2; clear bp2
  clear bo; have bo := bo2; clear bo2
  clear br; have br := br2; clear br2
  clear bd; have bd := bd2; clear bd2
  clear bh; have bh := bh2; clear bh2
  have kr2 : Blk (((w7.setCell ⟨w.heap.size + 1 + 1, 13, none⟩ (.slice (some ⟨gh, 0, none⟩) lh0 lh0)).setCell ⟨w.heap.size + 1, 0, none⟩ (.int .i64 n)).setCell ⟨w.heap.size + 1, 1, none⟩ (.int .i64 id)) (w.heap.size + 1) 40 #[.int .i64 n, .int .i64 id, .int .i64 0, .int .i64 0, .int .i64 0, .slice none 0 0, .int .i64 0, .int .i64 0, .int .i64 0, .slice none 0 0, .slice none 0 0, .slice none 0 0, .slice none 0 0, .slice none 0 0] := kr.set_ 1 _
  have rr1 := kr.rule; have fr1 := fun i => kr.frozen i
  have hB2 : Below w.heap.size w (((w7.setCell ⟨w.heap.size + 1 + 1, 13, none⟩ (.slice (some ⟨gh, 0, none⟩) lh0 lh0)).setCell ⟨w.heap.size + 1, 0, none⟩ (.int .i64 n)).setCell ⟨w.heap.size + 1, 1, none⟩ (.int .i64 id)) := hB.setCell (by simp) _
  have bv2 := bv.far (p := ⟨w.heap.size + 1, 1, none⟩) (by simp; omega) (.int .i64 id)
  have bp2 := bp.far (p := ⟨w.heap.size + 1, 1, none⟩) (by simp; omega) (.int .i64 id)
  have bo2 := bo.far (p := ⟨w.heap.size + 1, 1, none⟩) (by simp; omega) (.int .i64 id)
  have br2 := br.far (p := ⟨w.heap.size + 1, 1, none⟩) (by simp; omega) (.int .i64 id)
  have bd2 := bd.far (p := ⟨w.heap.size + 1, 1, none⟩) (by simp; omega) (.int .i64 id)
  have bh2 := bh.far (p := ⟨w.heap.size + 1, 1, none⟩) (by simp; omega) (.int .i64 id)
  clear kr hB; have kr := kr2; have hB := hB2; clear kr2 hB2
  clear bv; have bv := bv2; clear bv2
  clear bp; have bp := bp2; clear bp2
  clear bo; have bo := bo2; clear bo2
  clear br; have br := br2; clear br2
  clear bd; have bd := bd2; clear bd2
  clear bh; have bh := bh2; clear bh2
  have kr2 : Blk ((((w7.setCell ⟨w.heap.size + 1 + 1, 13, none⟩ (.slice (some ⟨gh, 0, none⟩) lh0 lh0)).setCell ⟨w.heap.size + 1, 0, none⟩ (.int .i64 n)).setCell ⟨w.heap.size + 1, 1, none⟩ (.int .i64 id)).setCell ⟨w.heap.size + 1, 2, none⟩ (.int .i64 own)) (w.heap.size + 1) 40 #[.int .i64 n, .int .i64 id, .int .i64 own, .int .i64 0, .int .i64 0, .slice none 0 0, .int .i64 0, .int .i64 0, .int .i64 0, .slice none 0 0, .slice none 0 0, .slice none 0 0, .slice none 0 0, .slice none 0 0] := kr.set_ 2 _
  have rr2 := kr.rule; have fr2 := fun i => kr.frozen i
  have hB2 : Below w.heap.size w ((((w7.setCell ⟨w.heap.size + 1 + 1, 13, none⟩ (.slice (some ⟨gh, 0, none⟩) lh0 lh0)).setCell ⟨w.heap.size + 1, 0, none⟩ (.int .i64 n)).setCell ⟨w.heap.size + 1, 1, none⟩ (.int .i64 id)).setCell ⟨w.heap.size + 1, 2, none⟩ (.int .i64 own)) := hB.setCell (by simp) _
  have bv2 := bv.far (p := ⟨w.heap.size + 1, 2, none⟩) (by simp; omega) (.int .i64 own)
  have bp2 := bp.far (p := ⟨w.heap.size + 1, 2, none⟩) (by simp; omega) (.int .i64 own)
  have bo2 := bo.far (p := ⟨w.heap.size + 1, 2, none⟩) (by simp; omega) (.int .i64 own)
  have br2 := br.far (p := ⟨w.heap.size + 1, 2, none⟩) (by simp; omega) (.int .i64 own)
  have bd2 := bd.far (p := ⟨w.heap.size + 1, 2, none⟩) (by simp; omega) (.int .i64 own)
  have bh2 := bh.far (p := ⟨w.heap.size + 1, 2, none⟩) (by simp; omega) (.int .i64 own)
  clear kr hB; have kr := kr2; have hB := hB2; clear kr2 hB2
  clear bv; have bv := bv2; clear bv2
  clear bp; have bp := bp2; clear bp2
  clear bo; have bo := bo2; clear bo2
  clear br; have br := br2; clear br2
  clear bd; have bd := bd2; clear bd2
  clear bh; have bh := bh2; clear bh2
  have kr2 : Blk (((((w7.setCell ⟨w.heap.size + 1 + 1, 13, none⟩ (.slice (some ⟨gh, 0, none⟩) lh0 lh0)).setCell ⟨w.heap.size + 1, 0, none⟩ (.int .i64 n)).setCell ⟨w.heap.size + 1, 1, none⟩ (.int .i64 id)).setCell ⟨w.heap.size + 1, 2, none⟩ (.int .i64 own)).setCell ⟨w.heap.size + 1, 3, none⟩ (.int .i64 view)) (w.heap.size + 1) 40 #[.int .i64 n, .int .i64 id, .int .i64 own, .int .i64 view, .int .i64 0, .slice none 0 0, .int .i64 0, .int .i64 0, .int .i64 0, .slice none 0 0, .slice none 0 0, .slice none 0 0, .slice none 0 0, .slice none 0 0] := kr.set_ 3 _
  have rr3 := kr.rule; have fr3 := fun i => kr.frozen i
  have hB2 : Below w.heap.size w (((((w7.setCell ⟨w.heap.size + 1 + 1, 13, none⟩ (.slice (some ⟨gh, 0, none⟩) lh0 lh0)).setCell ⟨w.heap.size + 1, 0, none⟩ (.int .i64 n)).setCell ⟨w.heap.size + 1, 1, none⟩ (.int .i64 id)).setCell ⟨w.heap.size + 1, 2, none⟩ (.int .i64 own)).setCell ⟨w.heap.size + 1, 3, none⟩ (.int .i64 view)) := hB.setCell (by simp) _
  have bv2 := bv.far (p := ⟨w.heap.size + 1, 3, none⟩) (by simp; omega) (.int .i64 view)
  have bp2 := bp.far (p := ⟨w.heap.size + 1, 3, none⟩) (by simp; omega) (.int .i64 view)
  have bo2 := bo.far (p := ⟨w.heap.size + 1, 3, none⟩) (by simp; omega) (.int .i64 view)
  have br2 := br.far (p := ⟨w.heap.size + 1, 3, none⟩) (by simp; omega) (.int .i64 view)
  have bd2 := bd.far (p := ⟨w.heap.size + 1, 3, none⟩) (by simp; omega) (.int .i64 view)
  have bh2 := bh.far (p := ⟨w.heap.size + 1, 3, none⟩) (by simp; omega) (.int .i64 view)
  clear kr hB; have kr := kr2; have hB := hB2; clear kr2 hB2
  clear bv; have bv := bv2; clear bv2
  clear bp; have bp := bp2; clear bp2
  clear bo; have bo := bo2; clear bo2
  clear br; have br := br2; clear br2
  clear bd; have bd := bd2; clear bd2
  clear bh; have bh := bh2; clear bh2
  have kr2 : Blk ((((((w7.setCell ⟨w.heap.size + 1 + 1, 13, none⟩ (.slice (some ⟨gh, 0, none⟩) lh0 lh0)).setCell ⟨w.heap.size + 1, 0, none⟩ (.int .i64 n)).setCell ⟨w.heap.size + 1, 1, none⟩ (.int .i64 id)).setCell ⟨w.heap.size + 1, 2, none⟩ (.int .i64 own)).setCell ⟨w.heap.size + 1, 3, none⟩ (.int .i64 view)).setCell ⟨w.heap.size + 1, 4, none⟩ (.int .i64 left)) (w.heap.size + 1) 40 #[.int .i64 n, .int .i64 id, .int .i64 own, .int .i64 view, .int .i64 left, .slice none 0 0, .int .i64 0, .int .i64 0, .int .i64 0, .slice none 0 0, .slice none 0 0, .slice none 0 0, .slice none 0 0, .slice none 0 0] := kr.set_ 4 _
  have rr4 := kr.rule; have fr4 := fun i => kr.frozen i
  have hB2 : Below w.heap.size w ((((((w7.setCell ⟨w.heap.size + 1 + 1, 13, none⟩ (.slice (some ⟨gh, 0, none⟩) lh0 lh0)).setCell ⟨w.heap.size + 1, 0, none⟩ (.int .i64 n)).setCell ⟨w.heap.size + 1, 1, none⟩ (.int .i64 id)).setCell ⟨w.heap.size + 1, 2, none⟩ (.int .i64 own)).setCell ⟨w.heap.size + 1, 3, none⟩ (.int .i64 view)).setCell ⟨w.heap.size + 1, 4, none⟩ (.int .i64 left)) := hB.setCell (by simp) _
  have bv2 := bv.far (p := ⟨w.heap.size + 1, 4, none⟩) (by simp; omega) (.int .i64 left)
  have bp2 := bp.far (p := ⟨w.heap.size + 1, 4, none⟩) (by simp; omega) (.int .i64 left)
  have bo2 := bo.far (p := ⟨w.heap.size + 1, 4, none⟩) (by simp; omega) (.int .i64 left)
  have br2 := br.far (p := ⟨w.heap.size + 1, 4, none⟩) (by simp; omega) (.int .i64 left)
  have bd2 := bd.far (p := ⟨w.heap.size + 1, 4, none⟩) (by simp; omega) (.int .i64 left)
  have bh2 := bh.far (p := ⟨w.heap.size + 1, 4, none⟩) (by simp; omega) (.int .i64 left)
  clear kr hB; have kr := kr2; have hB := hB2; clear kr2 hB2
  clear bv; have bv := bv2; clear bv2
  clear bp; have bp := bp2; clear bp2
  clear bo; have bo := bo2; clear bo2
  clear br; have br := br2; clear br2
  clear bd; have bd := bd2; clear bd2
  clear bh; have bh := bh2; clear bh2
  have kr2 : Blk (((((((w7.setCell ⟨w.heap.size + 1 + 1, 13, none⟩ (.slice (some ⟨gh, 0, none⟩) lh0 lh0)).setCell ⟨w.heap.size + 1, 0, none⟩ (.int .i64 n)).setCell ⟨w.heap.size + 1, 1, none⟩ (.int .i64 id)).setCell ⟨w.heap.size + 1, 2, none⟩ (.int .i64 own)).setCell ⟨w.heap.size + 1, 3, none⟩ (.int .i64 view)).setCell ⟨w.heap.size + 1, 4, none⟩ (.int .i64 left)).setCell ⟨w.heap.size + 1, 5, none⟩ (.slice (some ⟨gv, 0, none⟩) lv0 lv0)) (w.heap.size + 1) 40 #[.int .i64 n, .int .i64 id, .int .i64 own, .int .i64 view, .int .i64 left, .slice (some ⟨gv, 0, none⟩) lv0 lv0, .int .i64 0, .int .i64 0, .int .i64 0, .slice none 0 0, .slice none 0 0, .slice none 0 0, .slice none 0 0, .slice none 0 0] := kr.set_ 5 _
  have rr5 := kr.rule; have fr5 := fun i => kr.frozen i
  have hB2 : Below w.heap.size w (((((((w7.setCell ⟨w.heap.size + 1 + 1, 13, none⟩ (.slice (some ⟨gh, 0, none⟩) lh0 lh0)).setCell ⟨w.heap.size + 1, 0, none⟩ (.int .i64 n)).setCell ⟨w.heap.size + 1, 1, none⟩ (.int .i64 id)).setCell ⟨w.heap.size + 1, 2, none⟩ (.int .i64 own)).setCell ⟨w.heap.size + 1, 3, none⟩ (.int .i64 view)).setCell ⟨w.heap.size + 1, 4, none⟩ (.int .i64 left)).setCell ⟨w.heap.size + 1, 5, none⟩ (.slice (some ⟨gv, 0, none⟩) lv0 lv0)) := hB.setCell (by simp) _
  have bv2 := bv.far (p := ⟨w.heap.size + 1, 5, none⟩) (by simp; omega) (.slice (some ⟨gv, 0, none⟩) lv0 lv0)
  have bp2 := bp.far (p := ⟨w.heap.size + 1, 5, none⟩) (by simp; omega) (.slice (some ⟨gv, 0, none⟩) lv0 lv0)
  have bo2 := bo.far (p := ⟨w.heap.size + 1, 5, none⟩) (by simp; omega) (.slice (some ⟨gv, 0, none⟩) lv0 lv0)
  have br2 := br.far (p := ⟨w.heap.size + 1, 5, none⟩) (by simp; omega) (.slice (some ⟨gv, 0, none⟩) lv0 lv0)
  have bd2 := bd.far (p := ⟨w.heap.size + 1, 5, none⟩) (by simp; omega) (.slice (some ⟨gv, 0, none⟩) lv0 lv0)
  have bh2 := bh.far (p := ⟨w.heap.size + 1, 5, none⟩) (by simp; omega) (.slice (some ⟨gv, 0, none⟩) lv0 lv0)
  clear kr hB; have kr := kr2; have hB := hB2; clear kr2 hB2
  clear bv; have bv := bv2; clear bv2
  clear bp; have bp := bp2; clear bp2
  clear bo; have bo := bo2; clear bo2
  clear br; have br := br2; clear br2
  clear bd; have bd := bd2; clear bd2
  clear bh; have bh := bh2; clear bh2
  have kr2 : Blk ((((((((w7.setCell ⟨w.heap.size + 1 + 1, 13, none⟩ (.slice (some ⟨gh, 0, none⟩) lh0 lh0)).setCell ⟨w.heap.size + 1, 0, none⟩ (.int .i64 n)).setCell ⟨w.heap.size + 1, 1, none⟩ (.int .i64 id)).setCell ⟨w.heap.size + 1, 2, none⟩ (.int .i64 own)).setCell ⟨w.heap.size + 1, 3, none⟩ (.int .i64 view)).setCell ⟨w.heap.size + 1, 4, none⟩ (.int .i64 left)).setCell ⟨w.heap.size + 1, 5, none⟩ (.slice (some ⟨gv, 0, none⟩) lv0 lv0)).setCell ⟨w.heap.size + 1, 6, none⟩ (.int .i64 lv)) (w.heap.size + 1) 40 #[.int .i64 n, .int .i64 id, .int .i64 own, .int .i64 view, .int .i64 left, .slice (some ⟨gv, 0, none⟩) lv0 lv0, .int .i64 lv, .int .i64 0, .int .i64 0, .slice none 0 0, .slice none 0 0, .slice none 0 0, .slice none 0 0, .slice none 0 0] := kr.set_ 6 _
  have rr6 := kr.rule; have fr6 := fun i => kr.frozen i
  have hB2 : Below w.heap.size w ((((((((w7.setCell ⟨w.heap.size + 1 + 1, 13, none⟩ (.slice (some ⟨gh, 0, none⟩) lh0 lh0)).setCell ⟨w.heap.size + 1, 0, none⟩ (.int .i64 n)).setCell ⟨w.heap.size + 1, 1, none⟩ (.int .i64 id)).setCell ⟨w.heap.size + 1, 2, none⟩ (.int .i64 own)).setCell ⟨w.heap.size + 1, 3, none⟩ (.int .i64 view)).setCell ⟨w.heap.size + 1, 4, none⟩ (.int .i64 left)).setCell ⟨w.heap.size + 1, 5, none⟩ (.slice (some ⟨gv, 0, none⟩) lv0 lv0)).setCell ⟨w.heap.size + 1, 6, none⟩ (.int .i64 lv)) := hB.setCell (by simp) _
  have bv2 := bv.far (p := ⟨w.heap.size + 1, 6, none⟩) (by simp; omega) (.int .i64 lv)
  have bp2 := bp.far (p := ⟨w.heap.size + 1, 6, none⟩) (by simp; omega) (.int .i64 lv)
  have bo2 := bo.far (p := ⟨w.heap.size + 1, 6, none⟩) (by simp; omega) (.int .i64 lv)
  have br2 := br.far (p := ⟨w.heap.size + 1, 6, none⟩) (by simp; omega) (.int .i64 lv)
  have bd2 := bd.far (p := ⟨w.heap.size + 1, 6, none⟩) (by simp; omega) (.int .i64 lv)
  have bh2 := bh.far (p := ⟨w.heap.size + 1, 6, none⟩) (by simp; omega) (.int .i64 lv)
  clear kr hB; have kr := kr2; have hB := hB2; clear kr2 hB2
  clear bv; have bv := bv2; clear bv2
  clear bp; have bp := bp2; clear bp2
  clear bo; have bo := bo2; clear bo2
  clear br; have br := br2; clear br2
  clear bd; have bd := bd2; clear bd2
  clear bh; have bh := bh2; clear bh2
  have kr2 : Blk (((((((((w7.setCell ⟨w.heap.size + 1 + 1, 13, none⟩ (.slice (some ⟨gh, 0, none⟩) lh0 lh0)).setCell ⟨w.heap.size + 1, 0, none⟩ (.int .i64 n)).setCell ⟨w.heap.size + 1, 1, none⟩ (.int .i64 id)).setCell ⟨w.heap.size + 1, 2, none⟩ (.int .i64 own)).setCell ⟨w.heap.size + 1, 3, none⟩ (.int .i64 view)).setCell ⟨w.heap.size + 1, 4, none⟩ (.int .i64 left)).setCell ⟨w.heap.size + 1, 5, none⟩ (.slice (some ⟨gv, 0, none⟩) lv0 lv0)).setCell ⟨w.heap.size + 1, 6, none⟩ (.int .i64 lv)).setCell ⟨w.heap.size + 1, 7, none⟩ (.int .i64 lx)) (w.heap.size + 1) 40 #[.int .i64 n, .int .i64 id, .int .i64 own, .int .i64 view, .int .i64 left, .slice (some ⟨gv, 0, none⟩) lv0 lv0, .int .i64 lv, .int .i64 lx, .int .i64 0, .slice none 0 0, .slice none 0 0, .slice none 0 0, .slice none 0 0, .slice none 0 0] := kr.set_ 7 _
  have rr7 := kr.rule; have fr7 := fun i => kr.frozen i
  have hB2 : Below w.heap.size w (((((((((w7.setCell ⟨w.heap.size + 1 + 1, 13, none⟩ (.slice (some ⟨gh, 0, none⟩) lh0 lh0)).setCell ⟨w.heap.size + 1, 0, none⟩ (.int .i64 n)).setCell ⟨w.heap.size + 1, 1, none⟩ (.int .i64 id)).setCell ⟨w.heap.size + 1, 2, none⟩ (.int .i64 own)).setCell ⟨w.heap.size + 1, 3, none⟩ (.int .i64 view)).setCell ⟨w.heap.size + 1, 4, none⟩ (.int .i64 left)).setCell ⟨w.heap.size + 1, 5, none⟩ (.slice (some ⟨gv, 0, none⟩) lv0 lv0)).setCell ⟨w.heap.size + 1, 6, none⟩ (.int .i64 lv)).setCell ⟨w.heap.size + 1, 7, none⟩ (.int .i64 lx)) := hB.setCell (by simp) _
  have bv2 := bv.far (p := ⟨w.heap.size + 1, 7, none⟩) (by simp; omega) (.int .i64 lx)
  have bp2 := bp.far (p := ⟨w.heap.size + 1, 7, none⟩) (by simp; omega) (.int .i64 lx)
  have bo2 := bo.far (p := ⟨w.heap.size + 1, 7, none⟩) (by simp; omega) (.int .i64 lx)
  have br2 := br.far (p := ⟨w.heap.size + 1, 7, none⟩) (by simp; omega) (.int .i64 lx)
  have bd2 := bd.far (p := ⟨w.heap.size + 1, 7, none⟩) (by simp; omega) (.int .i64 lx)
  have bh2 := bh.far (p := ⟨w.heap.size + 1, 7, none⟩) (by simp; omega) (.int .i64 lx)
  clear kr hB; have kr := kr2; have hB := hB2; clear kr2 hB2
  clear bv; have bv := bv2; clear bv2
  clear bp; have bp := bp2; clear bp2
  clear bo; have bo := bo2; clear bo2
  clear br; have br := br2; clear br2
  clear bd; have bd := bd2; clear bd2
  clear bh; have bh := bh2; clear bh2
  have kr2 : Blk ((((((((((w7.setCell ⟨w.heap.size + 1 + 1, 13, none⟩ (.slice (some ⟨gh, 0, none⟩) lh0 lh0)).setCell ⟨w.heap.size + 1, 0, none⟩ (.int .i64 n)).setCell ⟨w.heap.size + 1, 1, none⟩ (.int .i64 id)).setCell ⟨w.heap.size + 1, 2, none⟩ (.int .i64 own)).setCell ⟨w.heap.size + 1, 3, none⟩ (.int .i64 view)).setCell ⟨w.heap.size + 1, 4, none⟩ (.int .i64 left)).setCell ⟨w.heap.size + 1, 5, none⟩ (.slice (some ⟨gv, 0, none⟩) lv0 lv0)).setCell ⟨w.heap.size + 1, 6, none⟩ (.int .i64 lv)).setCell ⟨w.heap.size + 1, 7, none⟩ (.int .i64 lx)).setCell ⟨w.heap.size + 1, 8, none⟩ (.int .i64 dn)) (w.heap.size + 1) 40 #[.int .i64 n, .int .i64 id, .int .i64 own, .int .i64 view, .int .i64 left, .slice (some ⟨gv, 0, none⟩) lv0 lv0, .int .i64 lv, .int .i64 lx, .int .i64 dn, .slice none 0 0, .slice none 0 0, .slice none 0 0, .slice none 0 0, .slice none 0 0] := kr.set_ 8 _
  have rr8 := kr.rule; have fr8 := fun i => kr.frozen i
  have hB2 : Below w.heap.size w ((((((((((w7.setCell ⟨w.heap.size + 1 + 1, 13, none⟩ (.slice (some ⟨gh, 0, none⟩) lh0 lh0)).setCell ⟨w.heap.size + 1, 0, none⟩ (.int .i64 n)).setCell ⟨w.heap.size + 1, 1, none⟩ (.int .i64 id)).setCell ⟨w.heap.size + 1, 2, none⟩ (.int .i64 own)).setCell ⟨w.heap.size + 1, 3, none⟩ (.int .i64 view)).setCell ⟨w.heap.size + 1, 4, none⟩ (.int .i64 left)).setCell ⟨w.heap.size + 1, 5, none⟩ (.slice (some ⟨gv, 0, none⟩) lv0 lv0)).setCell ⟨w.heap.size + 1, 6, none⟩ (.int .i64 lv)).setCell ⟨w.heap.size + 1, 7, none⟩ (.int .i64 lx)).setCell ⟨w.heap.size + 1, 8, none⟩ (.int .i64 dn)) := hB.setCell (by simp) _
  have bv2 := bv.far (p := ⟨w.heap.size + 1, 8, none⟩) (by simp; omega) (.int .i64 dn)
  have bp2 := bp.far (p := ⟨w.heap.size + 1, 8, none⟩) (by simp; omega) (.int .i64 dn)
  have bo2 := bo.far (p := ⟨w.heap.size + 1, 8, none⟩) (by simp; omega) (.int .i64 dn)
  have br2 := br.far (p := ⟨w.heap.size + 1, 8, none⟩) (by simp; omega) (.int .i64 dn)
  have bd2 := bd.far (p := ⟨w.heap.size + 1, 8, none⟩) (by simp; omega) (.int .i64 dn)
  have bh2 := bh.far (p := ⟨w.heap.size + 1, 8, none⟩) (by simp; omega) (.int .i64 dn)
  clear kr hB; have kr := kr2; have hB := hB2; clear kr2 hB2
  clear bv; have bv := bv2; clear bv2
  clear bp; have bp := bp2; clear bp2
  clear bo; have bo := bo2; clear bo2
  clear br; have br := br2; clear br2
  clear bd; have bd := bd2; clear bd2
  clear bh; have bh := bh2; clear bh2
  have kr2 : Blk (((((((((((w7.setCell ⟨w.heap.size + 1 + 1, 13, none⟩ (.slice (some ⟨gh, 0, none⟩) lh0 lh0)).setCell ⟨w.heap.size + 1, 0, none⟩ (.int .i64 n)).setCell ⟨w.heap.size + 1, 1, none⟩ (.int .i64 id)).setCell ⟨w.heap.size + 1, 2, none⟩ (.int .i64 own)).setCell ⟨w.heap.size + 1, 3, none⟩ (.int .i64 view)).setCell ⟨w.heap.size + 1, 4, none⟩ (.int .i64 left)).setCell ⟨w.heap.size + 1, 5, none⟩ (.slice (some ⟨gv, 0, none⟩) lv0 lv0)).setCell ⟨w.heap.size + 1, 6, none⟩ (.int .i64 lv)).setCell ⟨w.heap.size + 1, 7, none⟩ (.int .i64 lx)).setCell ⟨w.heap.size + 1, 8, none⟩ (.int .i64 dn)).setCell ⟨w.heap.size + 1, 9, none⟩ (.slice (some ⟨gp, 0, none⟩) lp0 lp0)) (w.heap.size + 1) 40 #[.int .i64 n, .int .i64 id, .int .i64 own, .int .i64 view, .int .i64 left, .slice (some ⟨gv, 0, none⟩) lv0 lv0, .int .i64 lv, .int .i64 lx, .int .i64 dn, .slice (some ⟨gp, 0, none⟩) lp0 lp0, .slice none 0 0, .slice none 0 0, .slice none 0 0, .slice none 0 0] := kr.set_ 9 _
  have rr9 := kr.rule; have fr9 := fun i => kr.frozen i
  have hB2 : Below w.heap.size w (((((((((((w7.setCell ⟨w.heap.size + 1 + 1, 13, none⟩ (.slice (some ⟨gh, 0, none⟩) lh0 lh0)).setCell ⟨w.heap.size + 1, 0, none⟩ (.int .i64 n)).setCell ⟨w.heap.size + 1, 1, none⟩ (.int .i64 id)).setCell ⟨w.heap.size + 1, 2, none⟩ (.int .i64 own)).setCell ⟨w.heap.size + 1, 3, none⟩ (.int .i64 view)).setCell ⟨w.heap.size + 1, 4, none⟩ (.int .i64 left)).setCell ⟨w.heap.size + 1, 5, none⟩ (.slice (some ⟨gv, 0, none⟩) lv0 lv0)).setCell ⟨w.heap.size + 1, 6, none⟩ (.int .i64 lv)).setCell ⟨w.heap.size + 1, 7, none⟩ (.int .i64 lx)).setCell ⟨w.heap.size + 1, 8, none⟩ (.int .i64 dn)).setCell ⟨w.heap.size + 1, 9, none⟩ (.slice (some ⟨gp, 0, none⟩) lp0 lp0)) := hB.setCell (by simp) _
  have bv2 := bv.far (p := ⟨w.heap.size + 1, 9, none⟩) (by simp; omega) (.slice (some ⟨gp, 0, none⟩) lp0 lp0)
  have bp2 := bp.far (p := ⟨w.heap.size + 1, 9, none⟩) (by simp; omega) (.slice (some ⟨gp, 0, none⟩) lp0 lp0)
  have bo2 := bo.far (p := ⟨w.heap.size + 1, 9, none⟩) (by simp; omega) (.slice (some ⟨gp, 0, none⟩) lp0 lp0)
  have br2 := br.far (p := ⟨w.heap.size + 1, 9, none⟩) (by simp; omega) (.slice (some ⟨gp, 0, none⟩) lp0 lp0)
  have bd2 := bd.far (p := ⟨w.heap.size + 1, 9, none⟩) (by simp; omega) (.slice (some ⟨gp, 0, none⟩) lp0 lp0)
  have bh2 := bh.far (p := ⟨w.heap.size + 1, 9, none⟩) (by simp; omega) (.slice (some ⟨gp, 0, none⟩) lp0 lp0)
  clear kr hB; have kr := kr2; have hB := hB2; clear kr2 hB2
  clear bv; have bv := bv2; clear bv2
  clear bp; have bp := bp2; clear bp2
  clear bo; have bo := bo2; clear bo2
  clear br; have br := br2; clear br2
  clear bd; have bd := bd2; clear bd2
  clear bh; have bh := bh2; clear bh2
  have kr2 : Blk ((((((((((((w7.setCell ⟨w.heap.size + 1 + 1, 13, none⟩ (.slice (some ⟨gh, 0, none⟩) lh0 lh0)).setCell ⟨w.heap.size + 1, 0, none⟩ (.int .i64 n)).setCell ⟨w.heap.size + 1, 1, none⟩ (.int .i64 id)).setCell ⟨w.heap.size + 1, 2, none⟩ (.int .i64 own)).setCell ⟨w.heap.size + 1, 3, none⟩ (.int .i64 view)).setCell ⟨w.heap.size + 1, 4, none⟩ (.int .i64 left)).setCell ⟨w.heap.size + 1, 5, none⟩ (.slice (some ⟨gv, 0, none⟩) lv0 lv0)).setCell ⟨w.heap.size + 1, 6, none⟩ (.int .i64 lv)).setCell ⟨w.heap.size + 1, 7, none⟩ (.int .i64 lx)).setCell ⟨w.heap.size + 1, 8, none⟩ (.int .i64 dn)).setCell ⟨w.heap.size + 1, 9, none⟩ (.slice (some ⟨gp, 0, none⟩) lp0 lp0)).setCell ⟨w.heap.size + 1, 10, none⟩ (.slice (some ⟨go, 0, none⟩) lo0 lo0)) (w.heap.size + 1) 40 #[.int .i64 n, .int .i64 id, .int .i64 own, .int .i64 view, .int .i64 left, .slice (some ⟨gv, 0, none⟩) lv0 lv0, .int .i64 lv, .int .i64 lx, .int .i64 dn, .slice (some ⟨gp, 0, none⟩) lp0 lp0, .slice (some ⟨go, 0, none⟩) lo0 lo0, .slice none 0 0, .slice none 0 0, .slice none 0 0] := kr.set_ 10 _
  have rr10 := kr.rule; have fr10 := fun i => kr.frozen i
  have hB2 : Below w.heap.size w ((((((((((((w7.setCell ⟨w.heap.size + 1 + 1, 13, none⟩ (.slice (some ⟨gh, 0, none⟩) lh0 lh0)).setCell ⟨w.heap.size + 1, 0, none⟩ (.int .i64 n)).setCell ⟨w.heap.size + 1, 1, none⟩ (.int .i64 id)).setCell ⟨w.heap.size + 1, 2, none⟩ (.int .i64 own)).setCell ⟨w.heap.size + 1, 3, none⟩ (.int .i64 view)).setCell ⟨w.heap.size + 1, 4, none⟩ (.int .i64 left)).setCell ⟨w.heap.size + 1, 5, none⟩ (.slice (some ⟨gv, 0, none⟩) lv0 lv0)).setCell ⟨w.heap.size + 1, 6, none⟩ (.int .i64 lv)).setCell ⟨w.heap.size + 1, 7, none⟩ (.int .i64 lx)).setCell ⟨w.heap.size + 1, 8, none⟩ (.int .i64 dn)).setCell ⟨w.heap.size + 1, 9, none⟩ (.slice (some ⟨gp, 0, none⟩) lp0 lp0)).setCell ⟨w.heap.size + 1, 10, none⟩ (.slice (some ⟨go, 0, none⟩) lo0 lo0)) := hB.setCell (by simp) _
  have bv2 := bv.far (p := ⟨w.heap.size + 1, 10, none⟩) (by simp; omega) (.slice (some ⟨go, 0, none⟩) lo0 lo0)
  have bp2 := bp.far (p := ⟨w.heap.size + 1, 10, none⟩) (by simp; omega) (.slice (some ⟨go, 0, none⟩) lo0 lo0)
  have bo2 := bo.far (p := ⟨w.heap.size + 1, 10, none⟩) (by simp; omega) (.slice (some ⟨go, 0, none⟩) lo0 lo0)
  have br2 := br.far (p := ⟨w.heap.size + 1, 10, none⟩) (by simp; omega) (.slice (some ⟨go, 0, none⟩) lo0 lo0)
  have bd2 := bd.far (p := ⟨w.heap.size + 1, 10, none⟩) (by simp; omega) (.slice (some ⟨go, 0, none⟩) lo0 lo0)
  have bh2 := bh.far (p := ⟨w.heap.size + 1, 10, none⟩) (by simp; omega) (.slice (some ⟨go, 0, none⟩) lo0 lo0)
  clear kr hB; have kr := kr2; have hB := hB2; clear kr2 hB2
  clear bv; have bv := bv2; clear bv2
  clear bp; have bp := bp2; clear bp2
  clear bo; have bo := bo2; clear bo2
  clear br; have br := br2; clear br2
  clear bd; have bd := bd2; clear bd2
  clear bh; have bh := bh2; clear bh2
  have kr2 : Blk (((((((((((((w7.setCell ⟨w.heap.size + 1 + 1, 13, none⟩ (.slice (some ⟨gh, 0, none⟩) lh0 lh0)).setCell ⟨w.heap.size + 1, 0, none⟩ (.int .i64 n)).setCell ⟨w.heap.size + 1, 1, none⟩ (.int .i64 id)).setCell ⟨w.heap.size + 1, 2, none⟩ (.int .i64 own)).setCell ⟨w.heap.size + 1, 3, none⟩ (.int .i64 view)).setCell ⟨w.heap.size + 1, 4, none⟩ (.int .i64 left)).setCell ⟨w.heap.size + 1, 5, none⟩ (.slice (some ⟨gv, 0, none⟩) lv0 lv0)).setCell ⟨w.heap.size + 1, 6, none⟩ (.int .i64 lv)).setCell ⟨w.heap.size + 1, 7, none⟩ (.int .i64 lx)).setCell ⟨w.heap.size + 1, 8, none⟩ (.int .i64 dn)).setCell ⟨w.heap.size + 1, 9, none⟩ (.slice (some ⟨gp, 0, none⟩) lp0 lp0)).setCell ⟨w.heap.size + 1, 10, none⟩ (.slice (some ⟨go, 0, none⟩) lo0 lo0)).setCell ⟨w.heap.size + 1, 11, none⟩ (.slice (some ⟨gr, 0, none⟩) lr0 lr0)) (w.heap.size + 1) 40 #[.int .i64 n, .int .i64 id, .int .i64 own, .int .i64 view, .int .i64 left, .slice (some ⟨gv, 0, none⟩) lv0 lv0, .int .i64 lv, .int .i64 lx, .int .i64 dn, .slice (some ⟨gp, 0, none⟩) lp0 lp0, .slice (some ⟨go, 0, none⟩) lo0 lo0, .slice (some ⟨gr, 0, none⟩) lr0 lr0, .slice none 0 0, .slice none 0 0] := kr.set_ 11 _
  have rr11 := kr.rule; have fr11 := fun i => kr.frozen i
  have hB2 : Below w.heap.size w (((((((((((((w7.setCell ⟨w.heap.size + 1 + 1, 13, none⟩ (.slice (some ⟨gh, 0, none⟩) lh0 lh0)).setCell ⟨w.heap.size + 1, 0, none⟩ (.int .i64 n)).setCell ⟨w.heap.size + 1, 1, none⟩ (.int .i64 id)).setCell ⟨w.heap.size + 1, 2, none⟩ (.int .i64 own)).setCell ⟨w.heap.size + 1, 3, none⟩ (.int .i64 view)).setCell ⟨w.heap.size + 1, 4, none⟩ (.int .i64 left)).setCell ⟨w.heap.size + 1, 5, none⟩ (.slice (some ⟨gv, 0, none⟩) lv0 lv0)).setCell ⟨w.heap.size + 1, 6, none⟩ (.int .i64 lv)).setCell ⟨w.heap.size + 1, 7, none⟩ (.int .i64 lx)).setCell ⟨w.heap.size + 1, 8, none⟩ (.int .i64 dn)).setCell ⟨w.heap.size + 1, 9, none⟩ (.slice (some ⟨gp, 0, none⟩) lp0 lp0)).setCell ⟨w.heap.size + 1, 10, none⟩ (.slice (some ⟨go, 0, none⟩) lo0 lo0)).setCell ⟨w.heap.size + 1, 11, none⟩ (.slice (some ⟨gr, 0, none⟩) lr0 lr0)) := hB.setCell (by simp) _
  have bv2 := bv.far (p := ⟨w.heap.size + 1, 11, none⟩) (by simp; omega) (.slice (some ⟨gr, 0, none⟩) lr0 lr0)
  have bp2 := bp.far (p := ⟨w.heap.size + 1, 11, none⟩) (by simp; omega) (.slice (some ⟨gr, 0, none⟩) lr0 lr0)
  have bo2 := bo.far (p := ⟨w.heap.size + 1, 11, none⟩) (by simp; omega) (.slice (some ⟨gr, 0, none⟩) lr0 lr0)
  have br2 := br.far (p := ⟨w.heap.size + 1, 11, none⟩) (by simp; omega) (.slice (some ⟨gr, 0, none⟩) lr0 lr0)
  have bd2 := bd.far (p := ⟨w.heap.size + 1, 11, none⟩) (by simp; omega) (.slice (some ⟨gr, 0, none⟩) lr0 lr0)
  have bh2 := bh.far (p := ⟨w.heap.size + 1, 11, none⟩) (by simp; omega) (.slice (some ⟨gr, 0, none⟩) lr0 lr0)
  clear kr hB; have kr := kr2; have hB := hB2; clear kr2 hB2
  clear bv; have bv := bv2; clear bv2
  clear bp; have bp := bp2; clear bp2
  clear bo; have bo := bo2; clear bo2
  clear br; have br := br2; clear br2
  clear bd; have bd := bd2; clear bd2
  clear bh; have bh := bh2; clear bh2
  have kr2 : Blk ((((((((((((((w7.setCell ⟨w.heap.size + 1 + 1, 13, none⟩ (.slice (some ⟨gh, 0, none⟩) lh0 lh0)).setCell ⟨w.heap.size + 1, 0, none⟩ (.int .i64 n)).setCell ⟨w.heap.size + 1, 1, none⟩ (.int .i64 id)).setCell ⟨w.heap.size + 1, 2, none⟩ (.int .i64 own)).setCell ⟨w.heap.size + 1, 3, none⟩ (.int .i64 view)).setCell ⟨w.heap.size + 1, 4, none⟩ (.int .i64 left)).setCell ⟨w.heap.size + 1, 5, none⟩ (.slice (some ⟨gv, 0, none⟩) lv0 lv0)).setCell ⟨w.heap.size + 1, 6, none⟩ (.int .i64 lv)).setCell ⟨w.heap.size + 1, 7, none⟩ (.int .i64 lx)).setCell ⟨w.heap.size + 1, 8, none⟩ (.int .i64 dn)).setCell ⟨w.heap.size + 1, 9, none⟩ (.slice (some ⟨gp, 0, none⟩) lp0 lp0)).setCell ⟨w.heap.size + 1, 10, none⟩ (.slice (some ⟨go, 0, none⟩) lo0 lo0)).setCell ⟨w.heap.size + 1, 11, none⟩ (.slice (some ⟨gr, 0, none⟩) lr0 lr0)).setCell ⟨w.heap.size + 1, 12, none⟩ (.slice (some ⟨gd, 0, none⟩) ld0 ld0)) (w.heap.size + 1) 40 #[.int .i64 n, .int .i64 id, .int .i64 own, .int .i64 view, .int .i64 left, .slice (some ⟨gv, 0, none⟩) lv0 lv0, .int .i64 lv, .int .i64 lx, .int .i64 dn, .slice (some ⟨gp, 0, none⟩) lp0 lp0, .slice (some ⟨go, 0, none⟩) lo0 lo0, .slice (some ⟨gr, 0, none⟩) lr0 lr0, .slice (some ⟨gd, 0, none⟩) ld0 ld0, .slice none 0 0] := kr.set_ 12 _
  have rr12 := kr.rule; have fr12 := fun i => kr.frozen i
  have hB2 : Below w.heap.size w ((((((((((((((w7.setCell ⟨w.heap.size + 1 + 1, 13, none⟩ (.slice (some ⟨gh, 0, none⟩) lh0 lh0)).setCell ⟨w.heap.size + 1, 0, none⟩ (.int .i64 n)).setCell ⟨w.heap.size + 1, 1, none⟩ (.int .i64 id)).setCell ⟨w.heap.size + 1, 2, none⟩ (.int .i64 own)).setCell ⟨w.heap.size + 1, 3, none⟩ (.int .i64 view)).setCell ⟨w.heap.size + 1, 4, none⟩ (.int .i64 left)).setCell ⟨w.heap.size + 1, 5, none⟩ (.slice (some ⟨gv, 0, none⟩) lv0 lv0)).setCell ⟨w.heap.size + 1, 6, none⟩ (.int .i64 lv)).setCell ⟨w.heap.size + 1, 7, none⟩ (.int .i64 lx)).setCell ⟨w.heap.size + 1, 8, none⟩ (.int .i64 dn)).setCell ⟨w.heap.size + 1, 9, none⟩ (.slice (some ⟨gp, 0, none⟩) lp0 lp0)).setCell ⟨w.heap.size + 1, 10, none⟩ (.slice (some ⟨go, 0, none⟩) lo0 lo0)).setCell ⟨w.heap.size + 1, 11, none⟩ (.slice (some ⟨gr, 0, none⟩) lr0 lr0)).setCell ⟨w.heap.size + 1, 12, none⟩ (.slice (some ⟨gd, 0, none⟩) ld0 ld0)) := hB.setCell (by simp) _
  have bv2 := bv.far (p := ⟨w.heap.size + 1, 12, none⟩) (by simp; omega) (.slice (some ⟨gd, 0, none⟩) ld0 ld0)
  have bp2 := bp.far (p := ⟨w.heap.size + 1, 12, none⟩) (by simp; omega) (.slice (some ⟨gd, 0, none⟩) ld0 ld0)
  have bo2 := bo.far (p := ⟨w.heap.size + 1, 12, none⟩) (by simp; omega) (.slice (some ⟨gd, 0, none⟩) ld0 ld0)
  have br2 := br.far (p := ⟨w.heap.size + 1, 12, none⟩) (by simp; omega) (.slice (some ⟨gd, 0, none⟩) ld0 ld0)
  have bd2 := bd.far (p := ⟨w.heap.size + 1, 12, none⟩) (by simp; omega) (.slice (some ⟨gd, 0, none⟩) ld0 ld0)
  have bh2 := bh.far (p := ⟨w.heap.size + 1, 12, none⟩) (by simp; omega) (.slice (some ⟨gd, 0, none⟩) ld0 ld0)
  clear kr hB; have kr := kr2; have hB := hB2; clear kr2 hB2
  clear bv; have bv := bv2; clear bv2
  clear bp; have bp := bp2; clear bp2
  clear bo; have bo := bo2; clear bo2
  clear br; have br := br2; clear br2
  clear bd; have bd := bd2; clear bd2
  clear bh; have bh := bh2; clear bh2
  have kr2 : Blk (((((((((((((((w7.setCell ⟨w.heap.size + 1 + 1, 13, none⟩ (.slice (some ⟨gh, 0, none⟩) lh0 lh0)).setCell ⟨w.heap.size + 1, 0, none⟩ (.int .i64 n)).setCell ⟨w.heap.size + 1, 1, none⟩ (.int .i64 id)).setCell ⟨w.heap.size + 1, 2, none⟩ (.int .i64 own)).setCell ⟨w.heap.size + 1, 3, none⟩ (.int .i64 view)).setCell ⟨w.heap.size + 1, 4, none⟩ (.int .i64 left)).setCell ⟨w.heap.size + 1, 5, none⟩ (.slice (some ⟨gv, 0, none⟩) lv0 lv0)).setCell ⟨w.heap.size + 1, 6, none⟩ (.int .i64 lv)).setCell ⟨w.heap.size + 1, 7, none⟩ (.int .i64 lx)).setCell ⟨w.heap.size + 1, 8, none⟩ (.int .i64 dn)).setCell ⟨w.heap.size + 1, 9, none⟩ (.slice (some ⟨gp, 0, none⟩) lp0 lp0)).setCell ⟨w.heap.size + 1, 10, none⟩ (.slice (some ⟨go, 0, none⟩) lo0 lo0)).setCell ⟨w.heap.size + 1, 11, none⟩ (.slice (some ⟨gr, 0, none⟩) lr0 lr0)).setCell ⟨w.heap.size + 1, 12, none⟩ (.slice (some ⟨gd, 0, none⟩) ld0 ld0)).setCell ⟨w.heap.size + 1, 13, none⟩ (.slice (some ⟨gh, 0, none⟩) lh0 lh0)) (w.heap.size + 1) 40 #[.int .i64 n, .int .i64 id, .int .i64 own, .int .i64 view, .int .i64 left, .slice (some ⟨gv, 0, none⟩) lv0 lv0, .int .i64 lv, .int .i64 lx, .int .i64 dn, .slice (some ⟨gp, 0, none⟩) lp0 lp0, .slice (some ⟨go, 0, none⟩) lo0 lo0, .slice (some ⟨gr, 0, none⟩) lr0 lr0, .slice (some ⟨gd, 0, none⟩) ld0 ld0, .slice (some ⟨gh, 0, none⟩) lh0 lh0] := kr.set_ 13 _
  have rr13 := kr.rule; have fr13 := fun i => kr.frozen i
  have hB2 : Below w.heap.size w (((((((((((((((w7.setCell ⟨w.heap.size + 1 + 1, 13, none⟩ (.slice (some ⟨gh, 0, none⟩) lh0 lh0)).setCell ⟨w.heap.size + 1, 0, none⟩ (.int .i64 n)).setCell ⟨w.heap.size + 1, 1, none⟩ (.int .i64 id)).setCell ⟨w.heap.size + 1, 2, none⟩ (.int .i64 own)).setCell ⟨w.heap.size + 1, 3, none⟩ (.int .i64 view)).setCell ⟨w.heap.size + 1, 4, none⟩ (.int .i64 left)).setCell ⟨w.heap.size + 1, 5, none⟩ (.slice (some ⟨gv, 0, none⟩) lv0 lv0)).setCell ⟨w.heap.size + 1, 6, none⟩ (.int .i64 lv)).setCell ⟨w.heap.size + 1, 7, none⟩ (.int .i64 lx)).setCell ⟨w.heap.size + 1, 8, none⟩ (.int .i64 dn)).setCell ⟨w.heap.size + 1, 9, none⟩ (.slice (some ⟨gp, 0, none⟩) lp0 lp0)).setCell ⟨w.heap.size + 1, 10, none⟩ (.slice (some ⟨go, 0, none⟩) lo0 lo0)).setCell ⟨w.heap.size + 1, 11, none⟩ (.slice (some ⟨gr, 0, none⟩) lr0 lr0)).setCell ⟨w.heap.size + 1, 12, none⟩ (.slice (some ⟨gd, 0, none⟩) ld0 ld0)).setCell ⟨w.heap.size + 1, 13, none⟩ (.slice (some ⟨gh, 0, none⟩) lh0 lh0)) := hB.setCell (by simp) _
  have bv2 := bv.far (p := ⟨w.heap.size + 1, 13, none⟩) (by simp; omega) (.slice (some ⟨gh, 0, none⟩) lh0 lh0)
  have bp2 := bp.far (p := ⟨w.heap.size + 1, 13, none⟩) (by simp; omega) (.slice (some ⟨gh, 0, none⟩) lh0 lh0)
  have bo2 := bo.far (p := ⟨w.heap.size + 1, 13, none⟩) (by simp; omega) (.slice (some ⟨gh, 0, none⟩) lh0 lh0)
  have br2 := br.far (p := ⟨w.heap.size + 1, 13, none⟩) (by simp; omega) (.slice (some ⟨gh, 0, none⟩) lh0 lh0)
  have bd2 := bd.far (p := ⟨w.heap.size + 1, 13, none⟩) (by simp; omega) (.slice (some ⟨gh, 0, none⟩) lh0 lh0)
  have bh2 := bh.far (p := ⟨w.heap.size + 1, 13, none⟩) (by simp; omega) (.slice (some ⟨gh, 0, none⟩) lh0 lh0)
  clear kr hB; have kr := kr2; have hB := hB2; clear kr2 hB2
  clear bv; have bv := bv2; clear bv2
  clear bp; have bp := bp2; clear bp2
  clear bo; have bo := bo2; clear bo2
  clear br; have br := br2; clear br2
  clear bd; have bd := bd2; clear bd2
  clear bh; have bh := bh2; clear bh2
  have rr14 := kr.rule
  have HB := Lib.hid hB; clear hB
  have BV := Lib.hid bv; clear bv
  have BP := Lib.hid bp; clear bp
  have BO := Lib.hid bo; clear bo
  have BR := Lib.hid br; clear br
  have BD := Lib.hid bd; clear bd
  have BH := Lib.hid bh; clear bh
  go_wp2
  refine bodyPost_ret (v := .agg #[.int .i64 n, .int .i64 id, .int .i64 own, .int .i64 view, .int .i64 left, .slice (some ⟨gv, 0, none⟩) lv0 lv0, .int .i64 lv, .int .i64 lx, .int .i64 dn, .slice (some ⟨gp, 0, none⟩) lp0 lp0, .slice (some ⟨go, 0, none⟩) lo0 lo0, .slice (some ⟨gr, 0, none⟩) lr0 lr0, .slice (some ⟨gd, 0, none⟩) ld0 ld0, .slice (some ⟨gh, 0, none⟩) lh0 lh0]) (by simp [results, Try.results10, go_sem, rr14]) rfl ⟨⟨n, id, own, view, left, voted, lv, lx, dn, pr, vo, re, ds, qs, some ⟨gv, 0, none⟩, some ⟨gp, 0, none⟩, some ⟨go, 0, none⟩, some ⟨gr, 0, none⟩, some ⟨gd, 0, none⟩, some ⟨gh, 0, none⟩, lv0, lp0, lo0, lr0, ld0, lh0⟩, ?_, ?_, ?_, HB.out⟩
  · simp only [Elv0.out, Elp0.out, Elo0.out, Elr0.out, Eld0.out, HPH.out.1]
  · simp only [Rq.dat, HPH.out.same Elh0.out]
  · have e1 := HPV.out; rw [← Elv0.out] at e1
    have e2 := HPP.out; rw [← Elp0.out] at e2
    have e3 := HPO.out; rw [← Elo0.out] at e3
    have e4 := HPR.out; rw [← Elr0.out] at e4
    have e5 := HPD.out; rw [← Eld0.out] at e5
    have HXX : Hid (∀ i, i < lh0 → HiR _ (w.heap.size + 3) (qs.getD i zH).A (qs.getD i zH).ps) := fun i hi' => by
      have hx := HX.out i hi'
      have hx2 := (hx.set_ (p := ⟨w.heap.size + 1 + 1, 13, none⟩) (by simp) (.slice (some ⟨gh, 0, none⟩) lh0 lh0))
      have hx3 := (hx2.set_ (p := ⟨w.heap.size + 1, 0, none⟩) (by simp) (.int .i64 n))
      have hx4 := (hx3.set_ (p := ⟨w.heap.size + 1, 1, none⟩) (by simp) (.int .i64 id))
      have hx5 := (hx4.set_ (p := ⟨w.heap.size + 1, 2, none⟩) (by simp) (.int .i64 own))
      have hx6 := (hx5.set_ (p := ⟨w.heap.size + 1, 3, none⟩) (by simp) (.int .i64 view))
      have hx7 := (hx6.set_ (p := ⟨w.heap.size + 1, 4, none⟩) (by simp) (.int .i64 left))
      have hx8 := (hx7.set_ (p := ⟨w.heap.size + 1, 5, none⟩) (by simp) (.slice (some ⟨gv, 0, none⟩) lv0 lv0))
      have hx9 := (hx8.set_ (p := ⟨w.heap.size + 1, 6, none⟩) (by simp) (.int .i64 lv))
      have hx10 := (hx9.set_ (p := ⟨w.heap.size + 1, 7, none⟩) (by simp) (.int .i64 lx))
      have hx11 := (hx10.set_ (p := ⟨w.heap.size + 1, 8, none⟩) (by simp) (.int .i64 dn))
      have hx12 := (hx11.set_ (p := ⟨w.heap.size + 1, 9, none⟩) (by simp) (.slice (some ⟨gp, 0, none⟩) lp0 lp0))
      have hx13 := (hx12.set_ (p := ⟨w.heap.size + 1, 10, none⟩) (by simp) (.slice (some ⟨go, 0, none⟩) lo0 lo0))
      have hx14 := (hx13.set_ (p := ⟨w.heap.size + 1, 11, none⟩) (by simp) (.slice (some ⟨gr, 0, none⟩) lr0 lr0))
      have hx15 := (hx14.set_ (p := ⟨w.heap.size + 1, 12, none⟩) (by simp) (.slice (some ⟨gd, 0, none⟩) ld0 ld0))
      have hx16 := (hx15.set_ (p := ⟨w.heap.size + 1, 13, none⟩) (by simp) (.slice (some ⟨gh, 0, none⟩) lh0 lh0))
      exact hx16
    refine ⟨fun wz hk => ⟨Rd.hiAt (e1.rd BV.out BV.out.lt) (by omega) hk, Rd3.hiAt (e2.rd BP.out BP.out.lt) (by omega) hk, Rd3.hiAt (e3.rd BO.out BO.out.lt) (by omega) hk, Rd3.hiAt (e4.rd BR.out BR.out.lt) (by omega) hk, Rd3.hiAt (e5.rd BD.out BD.out.lt) (by omega) hk, fun _ => ⟨gh, 0, rfl, BH.out.lt, fun i hi => ?_⟩⟩, e1.own BV.out (by omega), e2.own BP.out (by omega), e3.own BO.out (by omega), e4.own BR.out (by omega), e5.own BD.out (by omega), fun _ => ⟨_, gh, _, rfl, by omega, BH.out, ?_, fun i hi => ?_⟩⟩
    · have hi' : i < lh0 := by rw [← HPH.out.1]; exact hi
      have hc := (HPH.out.2.2.2 i hi').1
      refine ⟨⟨by rw [Nat.zero_add, hk gh _ (by omega) BH.out.lt, BH.out.cell]; exact hc.1, by rw [Nat.zero_add, hk gh _ (by omega) BH.out.lt, BH.out.cell]; exact hc.2⟩, ?_⟩
      exact (HXX.out i hi').1 wz fun b o h1 h2 => hk b o (by omega) h2
    · have := HPH.out.2.2.1; have h2 := HPH.out.1; rw [this]; show _ = qs.length * 2; rw [h2]
    · have hi' : i < lh0 := by rw [← HPH.out.1]; exact hi
      exact ⟨(HPH.out.2.2.2 i hi').1, (HXX.out i hi').2.low (by omega)⟩

theorem toRep_any (q : Rq) (w : World) (hr : RdQ w w.heap.size q) (hf : FewQ q) :
    Calls Try.prog 10 #[q.agg] w fun e w' => ∃ p : Rq, e = .returned p.agg ∧ p.dat = q.dat ∧ RdQ w' w'.heap.size p ∧ Below w.heap.size w w' :=
  (toRep_hi q w hr hf).mono fun e w' ⟨p, h1, h2, h3, h4⟩ => ⟨p, h1, h2, h3.1.rd, h4⟩

set_option maxHeartbeats 3200000 in
theorem eqRep_same (p q : Rq) (hpq : q.dat = p.dat) (w : World) (hp : RdQ w w.heap.size p) (hq : RdQ w w.heap.size q) (hf : FewQ p) :
    Calls Try.prog 12 #[p.agg, q.agg] w fun e w' => e = .returned (.bool true) ∧ Below w.heap.size w w' := by
  obtain ⟨n, id, own, view, left, voted, lv, lx, dn, pr, vo, re, ds, Ahs, Av, Ap, Ao, Ar, Ad, Ah, Acv, Acp, Aco, Acr, Acd, Ach⟩ := p
  obtain ⟨n', id', own', view', left', voted', lv', lx', dn', pr', vo', re', ds', Bhs, Bv, Bp, Bo, Br, Bd, Bh, Bcv, Bcp, Bco, Bcr, Bcd, Bch⟩ := q
  replace hpq := hpq.symm
  simp only [Rq.dat, Rd4.mk.injEq] at hpq
  obtain ⟨rfl, rfl, rfl, rfl, rfl, rfl, rfl, rfl, rfl, rfl, rfl, rfl, rfl, hhs⟩ := hpq
  replace hhs := hhs.symm
  obtain ⟨rv, rp, ro, rr, rd, rh⟩ := hp
  obtain ⟨sv, sp, so, sr, sd, sh⟩ := hq
  obtain ⟨fv, fp, fo, fr, fd, fh⟩ := hf
  simp only [Rq.agg, Rq.cells] at *
  have HV := Lib.hid (fun (W : World) (h : Below w.heap.size w W) => eqVoteS_same Av Bv Acv Bcv voted W ((rv.below h).more h.size) ((sv.below h).more h.size) fv)
  have HP := Lib.hid (fun (W : World) (h : Below w.heap.size w W) => eqTally_same Ap Bp Acp Bcp pr W ((rp.below h).more h.size) ((sp.below h).more h.size) fp)
  have HO := Lib.hid (fun (W : World) (h : Below w.heap.size w W) => eqTally_same Ao Bo Aco Bco vo W ((ro.below h).more h.size) ((so.below h).more h.size) fo)
  have HR := Lib.hid (fun (W : World) (h : Below w.heap.size w W) => eqTally_same Ar Br Acr Bcr re W ((rr.below h).more h.size) ((sr.below h).more h.size) fr)
  have HD := Lib.hid (fun (W : World) (h : Below w.heap.size w W) => eqTally_same Ad Bd Acd Bcd ds W ((rd.below h).more h.size) ((sd.below h).more h.size) fd)
  have HH := Lib.hid (fun (W : World) (h : Below w.heap.size w W) => eqHeardS_same Ah Bh Ach Bch Ahs Bhs hhs W ((rh.below h).more h.size) ((sh.below h).more h.size) fh)
  have hll : Bhs.length = Ahs.length := by rw [← hl_len, hhs, hl_len]
  rw [hll]
  clear rv rp ro rr rd rh sv sp so sr sd sh fv fp fo fr fd fh hhs hll
  obtain ⟨lv0, elv0⟩ : ∃ m, voted.length = m := ⟨_, rfl⟩
  simp only [elv0] at HV ⊢
  clear elv0
  obtain ⟨lp0, elp0⟩ : ∃ m, pr.length = m := ⟨_, rfl⟩
  simp only [elp0] at HP ⊢
  clear elp0
  obtain ⟨lo0, elo0⟩ : ∃ m, vo.length = m := ⟨_, rfl⟩
  simp only [elo0] at HO ⊢
  clear elo0
  obtain ⟨lr0, elr0⟩ : ∃ m, re.length = m := ⟨_, rfl⟩
  simp only [elr0] at HR ⊢
  clear elr0
  obtain ⟨ld0, eld0⟩ : ∃ m, ds.length = m := ⟨_, rfl⟩
  simp only [eld0] at HD ⊢
  clear eld0
  obtain ⟨lh0, elh0⟩ : ∃ m, Ahs.length = m := ⟨_, rfl⟩
  simp only [elh0] at HH ⊢
  clear elh0
  have hne : ∀ i : Int, (i != i) = false := fun i => by simp
  go_enter Try.func12, Try.ntmps12
  have ka := (Blk.new w 40 #[.int .i64 n, .int .i64 id, .int .i64 own, .int .i64 view, .int .i64 left, .slice Av lv0 Acv, .int .i64 lv, .int .i64 lx, .int .i64 dn, .slice Ap lp0 Acp, .slice Ao lo0 Aco, .slice Ar lr0 Acr, .slice Ad ld0 Acd, .slice Ah lh0 Ach]).alloc (.cells #[.int .i64 n, .int .i64 id, .int .i64 own, .int .i64 view, .int .i64 left, .slice Bv lv0 Bcv, .int .i64 lv, .int .i64 lx, .int .i64 dn, .slice Bp lp0 Bcp, .slice Bo lo0 Bco, .slice Br lr0 Bcr, .slice Bd ld0 Bcd, .slice Bh lh0 Bch] 40)
  have kb := Blk.new (w.alloc (.cells #[.int .i64 n, .int .i64 id, .int .i64 own, .int .i64 view, .int .i64 left, .slice Av lv0 Acv, .int .i64 lv, .int .i64 lx, .int .i64 dn, .slice Ap lp0 Acp, .slice Ao lo0 Aco, .slice Ar lr0 Acr, .slice Ad ld0 Acd, .slice Ah lh0 Ach] 40)) 40 #[.int .i64 n, .int .i64 id, .int .i64 own, .int .i64 view, .int .i64 left, .slice Bv lv0 Bcv, .int .i64 lv, .int .i64 lx, .int .i64 dn, .slice Bp lp0 Bcp, .slice Bo lo0 Bco, .slice Br lr0 Bcr, .slice Bd ld0 Bcd, .slice Bh lh0 Bch]
  simp only [World.size_alloc] at kb
  have hB := up_ (up_ (Below.refl w.heap.size w) (.cells #[.int .i64 n, .int .i64 id, .int .i64 own, .int .i64 view, .int .i64 left, .slice Av lv0 Acv, .int .i64 lv, .int .i64 lx, .int .i64 dn, .slice Ap lp0 Acp, .slice Ao lo0 Aco, .slice Ar lr0 Acr, .slice Ad ld0 Acd, .slice Ah lh0 Ach] 40)) (.cells #[.int .i64 n, .int .i64 id, .int .i64 own, .int .i64 view, .int .i64 left, .slice Bv lv0 Bcv, .int .i64 lv, .int .i64 lx, .int .i64 dn, .slice Bp lp0 Bcp, .slice Bo lo0 Bco, .slice Br lr0 Bcr, .slice Bd ld0 Bcd, .slice Bh lh0 Bch] 40)
  have ra := ka.rule; have rb := kb.rule
  go_wp2_with fail
  refine (HV.out _ hB).mono ?_
  rintro e w0 ⟨rfl, hb⟩
  have ka' := ka.on hb; have kb' := kb.on hb; have hB' := on_ hB hb
  clear ka kb hB ra rb hb; have ka := ka'; have kb := kb'; have hB := hB'; clear ka' kb' hB'
  have ra := ka.rule; have rb := kb.rule
  go_wp2_with fail
  refine (eqVote_is true lv lx lv lx (by simp) _).mono ?_
  rintro e w1 ⟨rfl, hb⟩
  have ka' := ka.on hb; have kb' := kb.on hb; have hB' := on_ hB hb
  clear ka kb hB ra rb hb; have ka := ka'; have kb := kb'; have hB := hB'; clear ka' kb' hB'
  have ra := ka.rule; have rb := kb.rule
  go_wp2_with fail
  refine (HP.out _ hB).mono ?_
  rintro e w2 ⟨rfl, hb⟩
  have ka' := ka.on hb; have kb' := kb.on hb; have hB' := on_ hB hb
  clear ka kb hB ra rb hb; have ka := ka'; have kb := kb'; have hB := hB'; clear ka' kb' hB'
  have ra := ka.rule; have rb := kb.rule
  go_wp2_with fail
  refine (HO.out _ hB).mono ?_
  rintro e w3 ⟨rfl, hb⟩
  have ka' := ka.on hb; have kb' := kb.on hb; have hB' := on_ hB hb
  clear ka kb hB ra rb hb; have ka := ka'; have kb := kb'; have hB := hB'; clear ka' kb' hB'
  have ra := ka.rule; have rb := kb.rule
  go_wp2_with fail
  refine (HR.out _ hB).mono ?_
  rintro e w4 ⟨rfl, hb⟩
  have ka' := ka.on hb; have kb' := kb.on hb; have hB' := on_ hB hb
  clear ka kb hB ra rb hb; have ka := ka'; have kb := kb'; have hB := hB'; clear ka' kb' hB'
  have ra := ka.rule; have rb := kb.rule
  go_wp2_with fail
  refine (HD.out _ hB).mono ?_
  rintro e w5 ⟨rfl, hb⟩
  have ka' := ka.on hb; have kb' := kb.on hb; have hB' := on_ hB hb
  clear ka kb hB ra rb hb; have ka := ka'; have kb := kb'; have hB := hB'; clear ka' kb' hB'
  have ra := ka.rule; have rb := kb.rule
  go_wp2_with fail
  refine (HH.out _ hB).mono ?_
  rintro e w6 ⟨rfl, hb⟩
  have ka' := ka.on hb; have kb' := kb.on hb; have hB' := on_ hB hb
  clear ka kb hB ra rb hb; have ka := ka'; have kb := kb'; have hB := hB'; clear ka' kb' hB'
  have ra := ka.rule; have rb := kb.rule
  go_wp2
  go_ret
  exact ⟨rfl, hB⟩
end Go.Proofs.Ytfdfjmibjnmhpaa.V
