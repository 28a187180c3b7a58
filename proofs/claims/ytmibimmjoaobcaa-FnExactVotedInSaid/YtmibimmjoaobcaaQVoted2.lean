/-
  What a replica voted for in a view, of the model and of the program: contracts. No statement is proved here.
-/
import Derived.Test.YtmibimmjoaobcaaQVoted
set_option linter.unusedVariables false
set_option maxRecDepth 100000
namespace Go.Proofs.Ytmibimmjoaobcaa.V
open Go.RowKit Go.Proofs.Ytmibimmjoaobcaa.B

/-- What VotedIn answers. -/
def vinQ (r : Rd4) (v : Int) : Int × Bool := if repQ r then findV r.voted v else (0, false)
set_option maxHeartbeats 3200000 in
theorem implVotedIn_is (y : Int) (z : Bool) (q : Rq) (v : Int) (hz : vinQ q.dat v = (y, z)) (w : World) (hr : RdQ w w.heap.size q) (hf : FewQ q) :
    Calls Try.prog 16 #[q.agg, .int .i64 v] w fun e w' => e = .returned (.tuple #[.int .i64 y, .bool z]) ∧ Below w.heap.size w w' := by
  obtain ⟨b1, hb1⟩ : ∃ b, repQ q.dat = b := ⟨_, rfl⟩
  have hz' : (if b1 then findV q.voted v else (0, false)) = (y, z) := by rw [← hz, ← hb1]; rfl
  have H1 := Lib.hid (fun (W : World) (h : Below w.heap.size w W) => implRepOk_is b1 q hb1 W ((hr.below h).more h.size) hf)
  clear hb1 hz
  obtain ⟨n, id, own, view, left, voted, lv, lx, dn, pr, vo, re, ds, hs, Av, Ap, Ao, Ar, Ad, Ah, cv, cp, co, cr, cd, ch⟩ := q
  obtain ⟨rv, rp, ro, rr, rd, rh⟩ := hr
  obtain ⟨fv, fp, fo, fr, fd, fh⟩ := hf
  simp only [Rq.agg, Rq.cells] at *
  obtain ⟨lv0, elv0⟩ : ∃ m, voted.length = m := ⟨_, rfl⟩
  obtain ⟨lp0, elp0⟩ : ∃ m, pr.length = m := ⟨_, rfl⟩
  obtain ⟨lo0, elo0⟩ : ∃ m, vo.length = m := ⟨_, rfl⟩
  obtain ⟨lr0, elr0⟩ : ∃ m, re.length = m := ⟨_, rfl⟩
  obtain ⟨ld0, eld0⟩ : ∃ m, ds.length = m := ⟨_, rfl⟩
  obtain ⟨lh0, elh0⟩ : ∃ m, hs.length = m := ⟨_, rfl⟩
  simp only [elv0, elp0, elo0, elr0, eld0, elh0] at H1 ⊢
  have RV := Lib.hid rv; have ELV := Lib.hid elv0
  have blv : lv0 ≤ 1048576 := by rw [← elv0]; exact fv
  clear elv0 elp0 elo0 elr0 eld0 elh0 rv rp ro rr rd rh fv fp fo fr fd fh
  have HZ := Lib.hid hz'; clear hz'
  have ka := Blk.new w 40 #[.int .i64 n, .int .i64 id, .int .i64 own, .int .i64 view, .int .i64 left, .slice Av lv0 cv, .int .i64 lv, .int .i64 lx, .int .i64 dn, .slice Ap lp0 cp, .slice Ao lo0 co, .slice Ar lr0 cr, .slice Ad ld0 cd, .slice Ah lh0 ch]
  have hB := up_ (Below.refl w.heap.size w) (.cells #[.int .i64 n, .int .i64 id, .int .i64 own, .int .i64 view, .int .i64 left, .slice Av lv0 cv, .int .i64 lv, .int .i64 lx, .int .i64 dn, .slice Ap lp0 cp, .slice Ao lo0 co, .slice Ar lr0 cr, .slice Ad ld0 cd, .slice Ah lh0 ch] 40)
  have ra := ka.rule
  go_enter Try.func16, Try.ntmps16
  go_wp2_with fail
  refine (H1.out _ hB).mono ?_
  rintro e w1 ⟨rfl, hb⟩
  have ka1 := ka.on hb; have hB1 := on_ hB hb; clear ra ka hB hb; have ra := ka1.rule
  rcases b1 with _ | _
  · have hyz := HZ.out
    simp only [Bool.false_eq_true, if_false, Prod.mk.injEq] at hyz
    obtain ⟨rfl, rfl⟩ := hyz
    go_wp2
    refine bodyPost_ret (v := .tuple #[.int .i64 0, .bool false]) (by simp [results, Try.results16, go_sem]) rfl ⟨rfl, hB1⟩
  · have HZ2 : Hid (findV voted v = (y, z)) := by show _ = _; have := HZ.out; simpa using this
    have HKA := Lib.hid ka1; have HB1 := Lib.hid hB1; clear ka1 hB1
    go_wp2
    go_loopw [14] (fun i wr => ∃ (k : Nat), k ≤ lv0 ∧ i = .int .i64 k ∧ Hid (∀ j, j < k → decide ((voted.getD j (0, 0)).1 = v) = false) ∧ Blk wr w.heap.size 40 #[.int .i64 n, .int .i64 id, .int .i64 own, .int .i64 view, .int .i64 left, .slice Av lv0 cv, .int .i64 lv, .int .i64 lx, .int .i64 dn, .slice Ap lp0 cp, .slice Ao lo0 co, .slice Ar lr0 cr, .slice Ad ld0 cd, .slice Ah lh0 ch] ∧ Below w.heap.size w wr) (fun i _ => lv0 - (intOf i).toNat)
    case atStart => exact ⟨0, Nat.zero_le _, rfl, fun j hj => absurd hj (by omega), HKA.out, HB1.out⟩
    case round =>
      obtain ⟨k, hk, rfl, hall, ka, hB⟩ := hrel
      clear ra HKA HB1
      have ra := ka.rule
      by_cases hlt : k < lv0
      · obtain ⟨b, off, rfl, hb, hc0, hc1⟩ := Rd.at_ (RV.out.below hB) (k := k) (by rw [ELV.out]; omega)
        obtain ⟨⟨xa, xb⟩, hu⟩ : ∃ u, voted.getD k (0, 0) = u := ⟨_, rfl⟩
        rw [hu] at hc0 hc1
        simp only at hc0 hc1
        have HU := Lib.hid hu; clear hu
        have hup : Below w.heap.size w (wr.alloc (.cells #[.int .i64 xa, .int .i64 xb] 34)) := hB.alloc hB.size _
        have kup := ka.alloc (.cells #[.int .i64 xa, .int .i64 xb] 34)
        by_cases hx : xa = v
        · subst hx
          have HY := Lib.hid (show findV voted xa = (xb, true) from by unfold findV; rw [find_some2 (k := k) (by rw [ELV.out]; omega) (fun j hj => hall.out j hj) (by rw [HU.out]; simp), HU.out])
          have hyz := HZ2.out.symm.trans HY.out
          simp only [Prod.mk.injEq] at hyz
          obtain ⟨rfl, rfl⟩ := hyz
          clear HZ2 HZ
          go_wp2
          refine bodyPost_ret (v := .tuple #[.int .i64 y, .bool true]) (by simp [results, Try.results16, go_sem]) rfl ⟨rfl, hup⟩
        · have hx' : (xa == v) = false := by simpa using hx
          have HX := Lib.hid hx; clear hx
          go_wp2
          go_roundw
          case rel =>
            refine ⟨k + 1, by omega, by go_num, fun j hj => ?_, kup, hup⟩
            by_cases e : j = k
            · rw [e, HU.out]; simpa using HX.out
            · exact hall.out j (by omega)
          case measure => simp [intOf]; omega
      · have HY := Lib.hid (show findV voted v = (0, false) from by unfold findV; rw [find_none2 (fun j hj => hall.out j (by rw [ELV.out] at hj; omega))])
        have hyz := HZ2.out.symm.trans HY.out
        simp only [Prod.mk.injEq] at hyz
        obtain ⟨rfl, rfl⟩ := hyz
        clear HZ2 HZ
        go_wp2
        refine bodyPost_ret (v := .tuple #[.int .i64 0, .bool false]) (by simp [results, Try.results16, go_sem]) rfl ⟨rfl, hB⟩

set_option maxHeartbeats 3200000 in
theorem specVotedIn_is (y : Int) (z : Bool) (q : Rq) (v : Int) (hz : vinQ q.dat v = (y, z)) (w : World) (hr : RdQ w w.heap.size q) (hf : FewQ q) :
    Calls Try.prog 15 #[q.agg, .int .i64 v] w fun e w' => e = .returned (.tuple #[.int .i64 y, .bool z]) ∧ Below w.heap.size w w' := by
  obtain ⟨b1, hb1⟩ : ∃ b, repQ q.dat = b := ⟨_, rfl⟩
  have hz' : (if b1 then findV q.voted v else (0, false)) = (y, z) := by rw [← hz, ← hb1]; rfl
  have H1 := Lib.hid (fun (W : World) (h : Below w.heap.size w W) => specRepOk_is b1 q hb1 W ((hr.below h).more h.size) hf)
  clear hb1 hz
  obtain ⟨n, id, own, view, left, voted, lv, lx, dn, pr, vo, re, ds, hs, Av, Ap, Ao, Ar, Ad, Ah, cv, cp, co, cr, cd, ch⟩ := q
  obtain ⟨rv, rp, ro, rr, rd, rh⟩ := hr
  obtain ⟨fv, fp, fo, fr, fd, fh⟩ := hf
  simp only [Rq.agg, Rq.cells] at *
  obtain ⟨lv0, elv0⟩ : ∃ m, voted.length = m := ⟨_, rfl⟩
  obtain ⟨lp0, elp0⟩ : ∃ m, pr.length = m := ⟨_, rfl⟩
  obtain ⟨lo0, elo0⟩ : ∃ m, vo.length = m := ⟨_, rfl⟩
  obtain ⟨lr0, elr0⟩ : ∃ m, re.length = m := ⟨_, rfl⟩
  obtain ⟨ld0, eld0⟩ : ∃ m, ds.length = m := ⟨_, rfl⟩
  obtain ⟨lh0, elh0⟩ : ∃ m, hs.length = m := ⟨_, rfl⟩
  simp only [elv0, elp0, elo0, elr0, eld0, elh0] at H1 ⊢
  have RV := Lib.hid rv; have ELV := Lib.hid elv0
  have blv : lv0 ≤ 1048576 := by rw [← elv0]; exact fv
  clear elv0 elp0 elo0 elr0 eld0 elh0 rv rp ro rr rd rh fv fp fo fr fd fh
  have HZ := Lib.hid hz'; clear hz'
  have ka := Blk.new w 40 #[.int .i64 n, .int .i64 id, .int .i64 own, .int .i64 view, .int .i64 left, .slice Av lv0 cv, .int .i64 lv, .int .i64 lx, .int .i64 dn, .slice Ap lp0 cp, .slice Ao lo0 co, .slice Ar lr0 cr, .slice Ad ld0 cd, .slice Ah lh0 ch]
  have hB := up_ (Below.refl w.heap.size w) (.cells #[.int .i64 n, .int .i64 id, .int .i64 own, .int .i64 view, .int .i64 left, .slice Av lv0 cv, .int .i64 lv, .int .i64 lx, .int .i64 dn, .slice Ap lp0 cp, .slice Ao lo0 co, .slice Ar lr0 cr, .slice Ad ld0 cd, .slice Ah lh0 ch] 40)
  have ra := ka.rule
  go_enter Try.func15, Try.ntmps15
  go_wp2_with fail
  refine (H1.out _ hB).mono ?_
  rintro e w1 ⟨rfl, hb⟩
  have ka1 := ka.on hb; have hB1 := on_ hB hb; clear ra ka hB hb; have ra := ka1.rule
  rcases b1 with _ | _
  · have hyz := HZ.out
    simp only [Bool.false_eq_true, if_false, Prod.mk.injEq] at hyz
    obtain ⟨rfl, rfl⟩ := hyz
    go_wp2
    refine bodyPost_ret (v := .tuple #[.int .i64 0, .bool false]) (by simp [results, Try.results15, go_sem]) rfl ⟨rfl, hB1⟩
  · have HZ2 : Hid (findV voted v = (y, z)) := by show _ = _; have := HZ.out; simpa using this
    have HKA := Lib.hid ka1; have HB1 := Lib.hid hB1; clear ka1 hB1
    go_wp2
    go_loopw [6] (fun i wr => ∃ (k : Nat), k ≤ lv0 ∧ i = .int .i64 k ∧ Hid (∀ j, j < k → decide ((voted.getD j (0, 0)).1 = v) = false) ∧ Blk wr w.heap.size 40 #[.int .i64 n, .int .i64 id, .int .i64 own, .int .i64 view, .int .i64 left, .slice Av lv0 cv, .int .i64 lv, .int .i64 lx, .int .i64 dn, .slice Ap lp0 cp, .slice Ao lo0 co, .slice Ar lr0 cr, .slice Ad ld0 cd, .slice Ah lh0 ch] ∧ Below w.heap.size w wr) (fun i _ => lv0 - (intOf i).toNat)
    case atStart => exact ⟨0, Nat.zero_le _, rfl, fun j hj => absurd hj (by omega), HKA.out, HB1.out⟩
    case round =>
      obtain ⟨k, hk, rfl, hall, ka, hB⟩ := hrel
      clear ra HKA HB1
      have ra := ka.rule
      by_cases hlt : k < lv0
      · obtain ⟨b, off, rfl, hb, hc0, hc1⟩ := Rd.at_ (RV.out.below hB) (k := k) (by rw [ELV.out]; omega)
        obtain ⟨⟨xa, xb⟩, hu⟩ : ∃ u, voted.getD k (0, 0) = u := ⟨_, rfl⟩
        rw [hu] at hc0 hc1
        simp only at hc0 hc1
        have HU := Lib.hid hu; clear hu
        by_cases hx : xa = v
        · subst hx
          have HY := Lib.hid (show findV voted xa = (xb, true) from by unfold findV; rw [find_some2 (k := k) (by rw [ELV.out]; omega) (fun j hj => hall.out j hj) (by rw [HU.out]; simp), HU.out])
          have hyz := HZ2.out.symm.trans HY.out
          simp only [Prod.mk.injEq] at hyz
          obtain ⟨rfl, rfl⟩ := hyz
          clear HZ2 HZ
          go_wp2
          refine bodyPost_ret (v := .tuple #[.int .i64 y, .bool true]) (by simp [results, Try.results15, go_sem]) rfl ⟨rfl, hB⟩
        · have hx' : (xa == v) = false := by simpa using hx
          have HX := Lib.hid hx; clear hx
          go_wp2
          go_roundw
          case rel =>
            refine ⟨k + 1, by omega, by go_num, fun j hj => ?_, ka, hB⟩
            by_cases e : j = k
            · rw [e, HU.out]; simpa using HX.out
            · exact hall.out j (by omega)
          case measure => simp [intOf]; omega
      · have HY := Lib.hid (show findV voted v = (0, false) from by unfold findV; rw [find_none2 (fun j hj => hall.out j (by rw [ELV.out] at hj; omega))])
        have hyz := HZ2.out.symm.trans HY.out
        simp only [Prod.mk.injEq] at hyz
        obtain ⟨rfl, rfl⟩ := hyz
        clear HZ2 HZ
        go_wp2
        refine bodyPost_ret (v := .tuple #[.int .i64 0, .bool false]) (by simp [results, Try.results15, go_sem]) rfl ⟨rfl, hB⟩

end Go.Proofs.Ytmibimmjoaobcaa.V
