/-
  talliesOk of the program: contract. No statement is proved here.
-/
import Derived.Test.YtfdfjmibjnmhpaaQImpl0
set_option linter.unusedVariables false
set_option maxRecDepth 100000
namespace Go.Proofs.Ytfdfjmibjnmhpaa.V
open Go.RowKit Go.Proofs.Ytfdfjmibjnmhpaa.B

/-- The tallies in their order. -/
def tk (pr vo re ds : List B3) (k : Nat) : List B3 := if k = 0 then pr else if k = 1 then vo else if k = 2 then re else ds
theorem tals_no {n : Int} {pr vo re ds : List B3} {k : Nat} (h : talB n (tk pr vo re ds k) = false) : (talB n pr && (talB n vo && (talB n re && talB n ds)) && ds.all zero4) = false := by
  unfold tk at h
  by_cases h0 : k = 0
  · rw [if_pos h0] at h; simp [h]
  rw [if_neg h0] at h
  by_cases h1 : k = 1
  · rw [if_pos h1] at h; simp [h]
  rw [if_neg h1] at h
  by_cases h2 : k = 2
  · rw [if_pos h2] at h; simp [h]
  rw [if_neg h2] at h
  simp [h]
theorem tals_yes {n : Int} {pr vo re ds : List B3} (h : ∀ j, j < 4 → talB n (tk pr vo re ds j) = true) : (talB n pr && (talB n vo && (talB n re && talB n ds)) && ds.all zero4) = ds.all zero4 := by
  have h0 : talB n pr = true := h 0 (by omega)
  have h1 : talB n vo = true := h 1 (by omega)
  have h2 : talB n re = true := h 2 (by omega)
  have h3 : talB n ds = true := h 3 (by omega)
  simp [h0, h1, h2, h3]

set_option maxHeartbeats 3200000 in
theorem implTallies_is (z : Bool) (q : Rq) (hz : talsQ q.dat = z) (w : World) (hr : RdQ w w.heap.size q) (hf : FewQ q) :
    Calls Try.prog 86 #[q.agg] w fun e w' => e = .returned (.bool z) ∧ Below w.heap.size w w' := by
  obtain ⟨n, id, own, view, left, voted, lv, lx, dn, pr, vo, re, ds, hs, Av, Ap, Ao, Ar, Ad, Ah, cv, cp, co, cr, cd, ch⟩ := q
  obtain ⟨rv, rp, ro, rr, rd, rh⟩ := hr
  obtain ⟨fv, fp, fo, fr, fd, fh⟩ := hf
  simp only [Rq.agg, Rq.cells] at *
  have HZ : Hid ((talB n pr && (talB n vo && (talB n re && talB n ds)) && ds.all zero4) = z) := hz
  clear hz
  have hK : ∀ k, k < 4 → ∃ A c, #[Value.slice Ap pr.length cp, .slice Ao vo.length co, .slice Ar re.length cr, .slice Ad ds.length cd][k]? = some (.slice A (tk pr vo re ds k).length c) ∧ Rd3 w w.heap.size A (tk pr vo re ds k) ∧ (tk pr vo re ds k).length ≤ 1048576 := by
    intro k hk
    rcases (by omega : k = 0 ∨ k = 1 ∨ k = 2 ∨ k = 3) with rfl | rfl | rfl | rfl
    · exact ⟨Ap, cp, rfl, rp, fp⟩
    · exact ⟨Ao, co, rfl, ro, fo⟩
    · exact ⟨Ar, cr, rfl, rr, fr⟩
    · exact ⟨Ad, cd, rfl, rd, fd⟩
  have HK := Lib.hid hK; clear hK
  have HD := Lib.hid (fun (x : Bool) (hx : ds.any nzB = x) (W : World) (h : Below w.heap.size w W) => contains_nz x Ad cd ds hx W ((rd.below h).more h.size) fd)
  clear rv rp ro rr rd rh fv fp fo fr fd fh
  obtain ⟨lv0, elv0⟩ : ∃ m, voted.length = m := ⟨_, rfl⟩
  obtain ⟨lp0, elp0⟩ : ∃ m, pr.length = m := ⟨_, rfl⟩
  obtain ⟨lo0, elo0⟩ : ∃ m, vo.length = m := ⟨_, rfl⟩
  obtain ⟨lr0, elr0⟩ : ∃ m, re.length = m := ⟨_, rfl⟩
  obtain ⟨ld0, eld0⟩ : ∃ m, ds.length = m := ⟨_, rfl⟩
  obtain ⟨lh0, elh0⟩ : ∃ m, hs.length = m := ⟨_, rfl⟩
  simp only [elv0, elp0, elo0, elr0, eld0, elh0] at HK HD ⊢
  clear elv0 elp0 elo0 elr0 eld0 elh0
  have ka := (Blk.new w 40 #[.int .i64 n, .int .i64 id, .int .i64 own, .int .i64 view, .int .i64 left, .slice Av lv0 cv, .int .i64 lv, .int .i64 lx, .int .i64 dn, .slice Ap lp0 cp, .slice Ao lo0 co, .slice Ar lr0 cr, .slice Ad ld0 cd, .slice Ah lh0 ch]).alloc (.cells #[.slice Ap lp0 cp, .slice Ao lo0 co, .slice Ar lr0 cr, .slice Ad ld0 cd] 37)
  have kt := Blk.new (w.alloc (.cells #[.int .i64 n, .int .i64 id, .int .i64 own, .int .i64 view, .int .i64 left, .slice Av lv0 cv, .int .i64 lv, .int .i64 lx, .int .i64 dn, .slice Ap lp0 cp, .slice Ao lo0 co, .slice Ar lr0 cr, .slice Ad ld0 cd, .slice Ah lh0 ch] 40)) 37 #[.slice Ap lp0 cp, .slice Ao lo0 co, .slice Ar lr0 cr, .slice Ad ld0 cd]
  simp only [World.size_alloc] at kt
  have hB := up_ (up_ (Below.refl w.heap.size w) (.cells #[.int .i64 n, .int .i64 id, .int .i64 own, .int .i64 view, .int .i64 left, .slice Av lv0 cv, .int .i64 lv, .int .i64 lx, .int .i64 dn, .slice Ap lp0 cp, .slice Ao lo0 co, .slice Ar lr0 cr, .slice Ad ld0 cd, .slice Ah lh0 ch] 40)) (.cells #[.slice Ap lp0 cp, .slice Ao lo0 co, .slice Ar lr0 cr, .slice Ad ld0 cd] 37)
  have HKA := Lib.hid ka; have HKT := Lib.hid kt; have HB := Lib.hid hB; clear ka kt hB
  go_enter Try.func86, Try.ntmps86
  go_wp2
  go_loopw [15] (fun i wr => ∃ (k : Nat), k ≤ 4 ∧ i = .int .i64 k ∧ Hid (∀ j, j < k → talB n (tk pr vo re ds j) = true) ∧ Blk wr w.heap.size 40 #[.int .i64 n, .int .i64 id, .int .i64 own, .int .i64 view, .int .i64 left, .slice Av lv0 cv, .int .i64 lv, .int .i64 lx, .int .i64 dn, .slice Ap lp0 cp, .slice Ao lo0 co, .slice Ar lr0 cr, .slice Ad ld0 cd, .slice Ah lh0 ch] ∧ Blk wr (w.heap.size + 1) 37 #[.slice Ap lp0 cp, .slice Ao lo0 co, .slice Ar lr0 cr, .slice Ad ld0 cd] ∧ Below w.heap.size w wr) (fun i _ => 4 - (intOf i).toNat)
  case atStart => exact ⟨0, Nat.zero_le _, rfl, fun j hj => absurd hj (by omega), HKA.out, HKT.out, HB.out⟩
  case round =>
    obtain ⟨k, hk, rfl, hall, ka, kt, hB⟩ := hrel
    clear HKA HKT HB
    have ra := ka.rule
    by_cases hlt : k < 4
    · obtain ⟨A, c, hx, hrd, hfw⟩ := HK.out k hlt
      have hc0 := (kt.cell k).trans hx
      have HRD := Lib.hid hrd; clear hrd hx
      have HTB : Hid (talB n (tk pr vo re ds k) = ((tk pr vo re ds k).all (below4 n) && tallyOkB (tk pr vo re ds k))) := rfl
      obtain ⟨vs, hvs⟩ : ∃ v, tk pr vo re ds k = v := ⟨_, rfl⟩
      rw [hvs] at hc0 HRD hfw HTB
      have HVS := Lib.hid hvs; clear hvs
      obtain ⟨b1, hb1⟩ : ∃ b, tallyOkB vs = b := ⟨_, rfl⟩
      obtain ⟨b2, hb2⟩ : ∃ b, vs.any (geB n) = b := ⟨_, rfl⟩
      have hb3 : vs.all (below4 n) = !b2 := by rw [← hb2, any_ge, Bool.not_not]
      rw [hb1, hb3] at HTB
      clear hb3
      have H1 := Lib.hid (fun (W : World) (h : Below w.heap.size w W) => implTallyOk_is b1 A c vs hb1 W ((HRD.out.below h).more h.size) hfw)
      have H2 := Lib.hid (fun (W : World) (h : Below w.heap.size w W) (g : CapN W w.heap.size n) => contains_ge b2 n w.heap.size A c vs hb2 W ((HRD.out.below h).more h.size) hfw g)
      obtain ⟨m, hm⟩ : ∃ m, vs.length = m := ⟨_, rfl⟩
      rw [hm] at hc0 H1 H2 hfw
      clear hm hb1 hb2 HRD
      have kx := Blk.new wr 37 #[.slice A m c]
      have ka1 := ka.alloc (.cells #[.slice A m c] 37)
      have kt1 := kt.alloc (.cells #[.slice A m c] 37)
      have hB1 : Below w.heap.size w (wr.alloc (.cells #[.slice A m c] 37)) := hB.alloc hB.size _
      go_wp2_with fail
      refine (H1.out _ hB1).mono ?_
      rintro e w1 ⟨rfl, hb1⟩
      have ka2 := ka1.on hb1
      have kt2 := kt1.on hb1
      have kx2 := kx.on hb1
      have hB2 := on_ hB1 hb1
      clear ra hc0 ka kt hB kx ka1 kt1 hB1 hb1
      have ra2 := ka2.rule
      have rx2 := kx2.rule
      rcases b1 with _ | _
      · go_wp2
        go_ret
        exact ⟨ret_bool (by rw [← HZ.out, tals_no (k := k) (by rw [HVS.out, HTB.out]; simp)]), hB2⟩
      · go_wp2_with fail
        refine (H2.out _ hB2 (ra2 0)).mono ?_
        rintro e w3 ⟨rfl, hb3⟩
        have ka4 := ka2.on hb3
        have kt4 := kt2.on hb3
        have hB4 := on_ hB2 hb3
        clear ra2 rx2 ka2 kt2 kx2 hB2 hb3
        have ra4 := ka4.rule
        rcases b2 with _ | _
        · go_wp2
          go_roundw
          case rel =>
            refine ⟨k + 1, by omega, by go_num, fun j hj => ?_, ka4, kt4, hB4⟩
            by_cases e : j = k
            · rw [e, HVS.out, HTB.out]; rfl
            · exact hall.out j (by omega)
          case measure => simp [intOf]; omega
        · go_wp2
          go_ret
          exact ⟨ret_bool (by rw [← HZ.out, tals_no (k := k) (by rw [HVS.out, HTB.out]; rfl)]), hB4⟩
    · obtain ⟨y, hy⟩ : ∃ y, ds.any nzB = y := ⟨_, rfl⟩
      have HY : Hid (z = !y) := by
        show _ = _
        rw [← HZ.out, tals_yes fun j hj => hall.out j (by omega), ← hy, any_nz, Bool.not_not]
      have H1 := Lib.hid (HD.out y hy); clear hy
      go_wp2_with fail
      refine (H1.out _ hB).mono ?_
      rintro e w1 ⟨rfl, hb1⟩
      have hB1 := on_ hB hb1
      clear hb1
      go_wp2
      go_ret
      exact ⟨ret_bool (by rw [HY.out]), hB1⟩
end Go.Proofs.Ytfdfjmibjnmhpaa.V
