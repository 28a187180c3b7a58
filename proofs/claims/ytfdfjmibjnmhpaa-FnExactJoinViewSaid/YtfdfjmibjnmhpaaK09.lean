/-
  RepOk of the program: contracts. RepOk of the model: contracts. No statement is proved here.
-/
import Derived.Test.YtfdfjmibjnmhpaaK08
import Derived.Test.YtfdfjmibjnmhpaaK07
set_option linter.unusedVariables false
set_option maxRecDepth 100000
namespace Go.Proofs.Ytfdfjmibjnmhpaa.V
open Go.RowKit Go.Proofs.Ytfdfjmibjnmhpaa.B

theorem lock_ten {a b u : Int} (h : u ≤ 10) : (decide (a = 0 ∧ b = 0) || voteOkB a b u) = lockOkB a b u := by
  unfold lockOkB voteOkB viewOkB valOkB
  rw [Bool.eq_iff_iff]
  simp
  omega
theorem timer_is (view y : Int) (h : viewOkB view = true) (hy : 3 + view = y) (w : World) : Calls Try.prog 83 #[.int .i64 view] w fun e w' => e = .returned (.int .i64 y) ∧ w' = w := by
  subst hy
  have h1 : 0 ≤ view ∧ view ≤ 9 := by simpa [viewOkB] using h
  obtain ⟨h2, h3⟩ := h1
  clear h
  go_enter Try.func83, Try.ntmps83
  go_wp2
  go_ret
  exact ⟨rfl, rfl⟩

set_option maxHeartbeats 3200000 in
theorem implRepOk_f0 (q : Rq) (w : World) (hr : RdQ w w.heap.size q) (hf : FewQ q) (hs_ : sizeB q.n = false) :
    Calls Try.prog 42 #[q.agg] w fun e w' => e = .returned (.bool false) ∧ Below w.heap.size w w' := by
  obtain ⟨n, id, own, view, left, voted, lv, lx, dn, pr, vo, re, ds, hs, Av, Ap, Ao, Ar, Ad, Ah, cv, cp, co, cr, cd, ch⟩ := q
  obtain ⟨rv, rp, ro, rr, rd, rh⟩ := hr
  obtain ⟨fv, fp, fo, fr, fd, fh⟩ := hf
  simp only [Rq.agg, Rq.cells] at *
  have HS := Lib.hid hs_; clear hs_
  obtain ⟨lv0, elv0⟩ : ∃ m, voted.length = m := ⟨_, rfl⟩
  obtain ⟨lp0, elp0⟩ : ∃ m, pr.length = m := ⟨_, rfl⟩
  obtain ⟨lo0, elo0⟩ : ∃ m, vo.length = m := ⟨_, rfl⟩
  obtain ⟨lr0, elr0⟩ : ∃ m, re.length = m := ⟨_, rfl⟩
  obtain ⟨ld0, eld0⟩ : ∃ m, ds.length = m := ⟨_, rfl⟩
  obtain ⟨lh0, elh0⟩ : ∃ m, hs.length = m := ⟨_, rfl⟩
  simp only [elv0, elp0, elo0, elr0, eld0, elh0]
  clear elv0 elp0 elo0 elr0 eld0 elh0 rv rp ro rr rd rh fv fp fo fr fd fh
  have ka := Blk.new w 40 #[.int .i64 n, .int .i64 id, .int .i64 own, .int .i64 view, .int .i64 left, .slice Av lv0 cv, .int .i64 lv, .int .i64 lx, .int .i64 dn, .slice Ap lp0 cp, .slice Ao lo0 co, .slice Ar lr0 cr, .slice Ad ld0 cd, .slice Ah lh0 ch]
  have hB := up_ (Below.refl w.heap.size w) (.cells #[.int .i64 n, .int .i64 id, .int .i64 own, .int .i64 view, .int .i64 left, .slice Av lv0 cv, .int .i64 lv, .int .i64 lx, .int .i64 dn, .slice Ap lp0 cp, .slice Ao lo0 co, .slice Ar lr0 cr, .slice Ad ld0 cd, .slice Ah lh0 ch] 40)
  go_enter Try.func42, Try.ntmps42
  have ra := ka.rule
  go_wp2_with (first | (go_at_call 80; refine (implSize_is n false HS.out _).mono ?_; rintro e w1 ⟨rfl, h1⟩; obtain rfl := h1.symm))
  go_ret
  exact ⟨rfl, hB⟩

set_option maxHeartbeats 3200000 in
theorem implRepOk_f1 (q : Rq) (w : World) (hr : RdQ w w.heap.size q) (hf : FewQ q) (hs_ : sizeB q.n = true) (h1 : decide (0 ≤ q.id) = false) :
    Calls Try.prog 42 #[q.agg] w fun e w' => e = .returned (.bool false) ∧ Below w.heap.size w w' := by
  obtain ⟨n, id, own, view, left, voted, lv, lx, dn, pr, vo, re, ds, hs, Av, Ap, Ao, Ar, Ad, Ah, cv, cp, co, cr, cd, ch⟩ := q
  obtain ⟨rv, rp, ro, rr, rd, rh⟩ := hr
  obtain ⟨fv, fp, fo, fr, fd, fh⟩ := hf
  simp only [Rq.agg, Rq.cells] at *
  have HS := Lib.hid hs_; clear hs_
  have d1 : decide (id < 0) = true := by simp at h1 ⊢; omega
  have g1 : id < 0 := by simp at h1; omega
  have E1 := Lib.hid h1; clear h1
  obtain ⟨lv0, elv0⟩ : ∃ m, voted.length = m := ⟨_, rfl⟩
  obtain ⟨lp0, elp0⟩ : ∃ m, pr.length = m := ⟨_, rfl⟩
  obtain ⟨lo0, elo0⟩ : ∃ m, vo.length = m := ⟨_, rfl⟩
  obtain ⟨lr0, elr0⟩ : ∃ m, re.length = m := ⟨_, rfl⟩
  obtain ⟨ld0, eld0⟩ : ∃ m, ds.length = m := ⟨_, rfl⟩
  obtain ⟨lh0, elh0⟩ : ∃ m, hs.length = m := ⟨_, rfl⟩
  simp only [elv0, elp0, elo0, elr0, eld0, elh0]
  clear elv0 elp0 elo0 elr0 eld0 elh0 rv rp ro rr rd rh fv fp fo fr fd fh
  have ka := Blk.new w 40 #[.int .i64 n, .int .i64 id, .int .i64 own, .int .i64 view, .int .i64 left, .slice Av lv0 cv, .int .i64 lv, .int .i64 lx, .int .i64 dn, .slice Ap lp0 cp, .slice Ao lo0 co, .slice Ar lr0 cr, .slice Ad ld0 cd, .slice Ah lh0 ch]
  have hB := up_ (Below.refl w.heap.size w) (.cells #[.int .i64 n, .int .i64 id, .int .i64 own, .int .i64 view, .int .i64 left, .slice Av lv0 cv, .int .i64 lv, .int .i64 lx, .int .i64 dn, .slice Ap lp0 cp, .slice Ao lo0 co, .slice Ar lr0 cr, .slice Ad ld0 cd, .slice Ah lh0 ch] 40)
  go_enter Try.func42, Try.ntmps42
  have ra := ka.rule
  go_wp2_with (first | (go_at_call 80; refine (implSize_is n true HS.out _).mono ?_; rintro e w1 ⟨rfl, h1⟩; obtain rfl := h1.symm))
  go_ret
  exact ⟨rfl, hB⟩

set_option maxHeartbeats 3200000 in
theorem implRepOk_f2 (q : Rq) (w : World) (hr : RdQ w w.heap.size q) (hf : FewQ q) (hs_ : sizeB q.n = true) (h1 : decide (0 ≤ q.id) = true) (h2 : decide (q.id < q.n) = false) :
    Calls Try.prog 42 #[q.agg] w fun e w' => e = .returned (.bool false) ∧ Below w.heap.size w w' := by
  obtain ⟨n, id, own, view, left, voted, lv, lx, dn, pr, vo, re, ds, hs, Av, Ap, Ao, Ar, Ad, Ah, cv, cp, co, cr, cd, ch⟩ := q
  obtain ⟨rv, rp, ro, rr, rd, rh⟩ := hr
  obtain ⟨fv, fp, fo, fr, fd, fh⟩ := hf
  simp only [Rq.agg, Rq.cells] at *
  have HS := Lib.hid hs_; clear hs_
  have d1 : decide (id < 0) = false := by simp at h1 ⊢; omega
  have d2 : decide (n ≤ id) = true := by simp at h2 ⊢; omega
  have g1 : 0 ≤ id := by simpa using h1
  have g2 : n ≤ id := by simp at h2; omega
  have E1 := Lib.hid h1; clear h1
  have E2 := Lib.hid h2; clear h2
  obtain ⟨lv0, elv0⟩ : ∃ m, voted.length = m := ⟨_, rfl⟩
  obtain ⟨lp0, elp0⟩ : ∃ m, pr.length = m := ⟨_, rfl⟩
  obtain ⟨lo0, elo0⟩ : ∃ m, vo.length = m := ⟨_, rfl⟩
  obtain ⟨lr0, elr0⟩ : ∃ m, re.length = m := ⟨_, rfl⟩
  obtain ⟨ld0, eld0⟩ : ∃ m, ds.length = m := ⟨_, rfl⟩
  obtain ⟨lh0, elh0⟩ : ∃ m, hs.length = m := ⟨_, rfl⟩
  simp only [elv0, elp0, elo0, elr0, eld0, elh0]
  clear elv0 elp0 elo0 elr0 eld0 elh0 rv rp ro rr rd rh fv fp fo fr fd fh
  have ka := Blk.new w 40 #[.int .i64 n, .int .i64 id, .int .i64 own, .int .i64 view, .int .i64 left, .slice Av lv0 cv, .int .i64 lv, .int .i64 lx, .int .i64 dn, .slice Ap lp0 cp, .slice Ao lo0 co, .slice Ar lr0 cr, .slice Ad ld0 cd, .slice Ah lh0 ch]
  have hB := up_ (Below.refl w.heap.size w) (.cells #[.int .i64 n, .int .i64 id, .int .i64 own, .int .i64 view, .int .i64 left, .slice Av lv0 cv, .int .i64 lv, .int .i64 lx, .int .i64 dn, .slice Ap lp0 cp, .slice Ao lo0 co, .slice Ar lr0 cr, .slice Ad ld0 cd, .slice Ah lh0 ch] 40)
  go_enter Try.func42, Try.ntmps42
  have ra := ka.rule
  go_wp2_with (first | (go_at_call 80; refine (implSize_is n true HS.out _).mono ?_; rintro e w1 ⟨rfl, h1⟩; obtain rfl := h1.symm))
  go_ret
  exact ⟨rfl, hB⟩

set_option maxHeartbeats 3200000 in
theorem implRepOk_f3 (q : Rq) (w : World) (hr : RdQ w w.heap.size q) (hf : FewQ q) (hs_ : sizeB q.n = true) (h1 : decide (0 ≤ q.id) = true) (h2 : decide (q.id < q.n) = true) (h3 : valOkB q.own = false) :
    Calls Try.prog 42 #[q.agg] w fun e w' => e = .returned (.bool false) ∧ Below w.heap.size w w' := by
  obtain ⟨n, id, own, view, left, voted, lv, lx, dn, pr, vo, re, ds, hs, Av, Ap, Ao, Ar, Ad, Ah, cv, cp, co, cr, cd, ch⟩ := q
  obtain ⟨rv, rp, ro, rr, rd, rh⟩ := hr
  obtain ⟨fv, fp, fo, fr, fd, fh⟩ := hf
  simp only [Rq.agg, Rq.cells] at *
  have HS := Lib.hid hs_; clear hs_
  have d1 : decide (id < 0) = false := by simp at h1 ⊢; omega
  have d2 : decide (n ≤ id) = false := by simp at h2 ⊢; omega
  have H3 := Lib.hid h3; clear h3
  have g1 : 0 ≤ id := by simpa using h1
  have g2 : id < n := by simpa using h2
  have E1 := Lib.hid h1; clear h1
  have E2 := Lib.hid h2; clear h2
  obtain ⟨lv0, elv0⟩ : ∃ m, voted.length = m := ⟨_, rfl⟩
  obtain ⟨lp0, elp0⟩ : ∃ m, pr.length = m := ⟨_, rfl⟩
  obtain ⟨lo0, elo0⟩ : ∃ m, vo.length = m := ⟨_, rfl⟩
  obtain ⟨lr0, elr0⟩ : ∃ m, re.length = m := ⟨_, rfl⟩
  obtain ⟨ld0, eld0⟩ : ∃ m, ds.length = m := ⟨_, rfl⟩
  obtain ⟨lh0, elh0⟩ : ∃ m, hs.length = m := ⟨_, rfl⟩
  simp only [elv0, elp0, elo0, elr0, eld0, elh0]
  clear elv0 elp0 elo0 elr0 eld0 elh0 rv rp ro rr rd rh fv fp fo fr fd fh
  have ka := Blk.new w 40 #[.int .i64 n, .int .i64 id, .int .i64 own, .int .i64 view, .int .i64 left, .slice Av lv0 cv, .int .i64 lv, .int .i64 lx, .int .i64 dn, .slice Ap lp0 cp, .slice Ao lo0 co, .slice Ar lr0 cr, .slice Ad ld0 cd, .slice Ah lh0 ch]
  have hB := up_ (Below.refl w.heap.size w) (.cells #[.int .i64 n, .int .i64 id, .int .i64 own, .int .i64 view, .int .i64 left, .slice Av lv0 cv, .int .i64 lv, .int .i64 lx, .int .i64 dn, .slice Ap lp0 cp, .slice Ao lo0 co, .slice Ar lr0 cr, .slice Ad ld0 cd, .slice Ah lh0 ch] 40)
  go_enter Try.func42, Try.ntmps42
  have ra := ka.rule
  go_wp2_with (first | (go_at_call 80; refine (implSize_is n true HS.out _).mono ?_; rintro e w1 ⟨rfl, h1⟩; obtain rfl := h1.symm) | (go_at_call 81; refine (implVal_is own false H3.out _).mono ?_; rintro e w1 ⟨rfl, h1⟩; obtain rfl := h1.symm))
  go_ret
  exact ⟨rfl, hB⟩

set_option maxHeartbeats 3200000 in
theorem implRepOk_f4 (q : Rq) (w : World) (hr : RdQ w w.heap.size q) (hf : FewQ q) (hs_ : sizeB q.n = true) (h1 : decide (0 ≤ q.id) = true) (h2 : decide (q.id < q.n) = true) (h3 : valOkB q.own = true) (h4 : viewOkB q.view = false) :
    Calls Try.prog 42 #[q.agg] w fun e w' => e = .returned (.bool false) ∧ Below w.heap.size w w' := by
  obtain ⟨n, id, own, view, left, voted, lv, lx, dn, pr, vo, re, ds, hs, Av, Ap, Ao, Ar, Ad, Ah, cv, cp, co, cr, cd, ch⟩ := q
  obtain ⟨rv, rp, ro, rr, rd, rh⟩ := hr
  obtain ⟨fv, fp, fo, fr, fd, fh⟩ := hf
  simp only [Rq.agg, Rq.cells] at *
  have HS := Lib.hid hs_; clear hs_
  have d1 : decide (id < 0) = false := by simp at h1 ⊢; omega
  have d2 : decide (n ≤ id) = false := by simp at h2 ⊢; omega
  have H3 := Lib.hid h3; clear h3
  have H4 := Lib.hid h4; clear h4
  have g1 : 0 ≤ id := by simpa using h1
  have g2 : id < n := by simpa using h2
  have E1 := Lib.hid h1; clear h1
  have E2 := Lib.hid h2; clear h2
  obtain ⟨lv0, elv0⟩ : ∃ m, voted.length = m := ⟨_, rfl⟩
  obtain ⟨lp0, elp0⟩ : ∃ m, pr.length = m := ⟨_, rfl⟩
  obtain ⟨lo0, elo0⟩ : ∃ m, vo.length = m := ⟨_, rfl⟩
  obtain ⟨lr0, elr0⟩ : ∃ m, re.length = m := ⟨_, rfl⟩
  obtain ⟨ld0, eld0⟩ : ∃ m, ds.length = m := ⟨_, rfl⟩
  obtain ⟨lh0, elh0⟩ : ∃ m, hs.length = m := ⟨_, rfl⟩
  simp only [elv0, elp0, elo0, elr0, eld0, elh0]
  clear elv0 elp0 elo0 elr0 eld0 elh0 rv rp ro rr rd rh fv fp fo fr fd fh
  have ka := Blk.new w 40 #[.int .i64 n, .int .i64 id, .int .i64 own, .int .i64 view, .int .i64 left, .slice Av lv0 cv, .int .i64 lv, .int .i64 lx, .int .i64 dn, .slice Ap lp0 cp, .slice Ao lo0 co, .slice Ar lr0 cr, .slice Ad ld0 cd, .slice Ah lh0 ch]
  have hB := up_ (Below.refl w.heap.size w) (.cells #[.int .i64 n, .int .i64 id, .int .i64 own, .int .i64 view, .int .i64 left, .slice Av lv0 cv, .int .i64 lv, .int .i64 lx, .int .i64 dn, .slice Ap lp0 cp, .slice Ao lo0 co, .slice Ar lr0 cr, .slice Ad ld0 cd, .slice Ah lh0 ch] 40)
  go_enter Try.func42, Try.ntmps42
  have ra := ka.rule
  go_wp2_with (first | (go_at_call 80; refine (implSize_is n true HS.out _).mono ?_; rintro e w1 ⟨rfl, h1⟩; obtain rfl := h1.symm) | (go_at_call 81; refine (implVal_is own true H3.out _).mono ?_; rintro e w1 ⟨rfl, h1⟩; obtain rfl := h1.symm) | (go_at_call 82; refine (implView_is view false H4.out _).mono ?_; rintro e w1 ⟨rfl, h1⟩; obtain rfl := h1.symm))
  go_ret
  exact ⟨rfl, hB⟩

set_option maxHeartbeats 3200000 in
theorem implRepOk_f5 (q : Rq) (w : World) (hr : RdQ w w.heap.size q) (hf : FewQ q) (hs_ : sizeB q.n = true) (h1 : decide (0 ≤ q.id) = true) (h2 : decide (q.id < q.n) = true) (h3 : valOkB q.own = true) (h4 : viewOkB q.view = true) (h5 : decide (1 ≤ q.left) = false) :
    Calls Try.prog 42 #[q.agg] w fun e w' => e = .returned (.bool false) ∧ Below w.heap.size w w' := by
  obtain ⟨n, id, own, view, left, voted, lv, lx, dn, pr, vo, re, ds, hs, Av, Ap, Ao, Ar, Ad, Ah, cv, cp, co, cr, cd, ch⟩ := q
  obtain ⟨rv, rp, ro, rr, rd, rh⟩ := hr
  obtain ⟨fv, fp, fo, fr, fd, fh⟩ := hf
  simp only [Rq.agg, Rq.cells] at *
  have hb : 0 ≤ view ∧ view ≤ 9 := by simpa [viewOkB] using h4
  obtain ⟨hv0, hv9⟩ := hb
  obtain ⟨y, hy⟩ : ∃ y, 3 + view = y := ⟨_, rfl⟩
  obtain ⟨u, hu⟩ : ∃ u, view + 1 = u := ⟨_, rfl⟩
  have hw : IntKind.i64.wrap (view + 1) = u := by rw [← hu]; exact IntWalk.i64_in _ (by omega)
  have hyb : 3 ≤ y ∧ y ≤ 12 := by omega
  obtain ⟨hyb1, hyb2⟩ := hyb
  have hu10 : u ≤ 10 := by omega
  have HY := Lib.hid hy; have HU := Lib.hid hu; clear hy hu
  have HS := Lib.hid hs_; clear hs_
  have d1 : decide (id < 0) = false := by simp at h1 ⊢; omega
  have d2 : decide (n ≤ id) = false := by simp at h2 ⊢; omega
  have H3 := Lib.hid h3; clear h3
  have H4 := Lib.hid h4; clear h4
  have d3 : decide (left < 1) = true := by simp at h5 ⊢; omega
  clear hu10
  have g1 : 0 ≤ id := by simpa using h1
  have g2 : id < n := by simpa using h2
  have E1 := Lib.hid h1; clear h1
  have E2 := Lib.hid h2; clear h2
  have E5 := Lib.hid h5; clear h5
  obtain ⟨lv0, elv0⟩ : ∃ m, voted.length = m := ⟨_, rfl⟩
  obtain ⟨lp0, elp0⟩ : ∃ m, pr.length = m := ⟨_, rfl⟩
  obtain ⟨lo0, elo0⟩ : ∃ m, vo.length = m := ⟨_, rfl⟩
  obtain ⟨lr0, elr0⟩ : ∃ m, re.length = m := ⟨_, rfl⟩
  obtain ⟨ld0, eld0⟩ : ∃ m, ds.length = m := ⟨_, rfl⟩
  obtain ⟨lh0, elh0⟩ : ∃ m, hs.length = m := ⟨_, rfl⟩
  simp only [elv0, elp0, elo0, elr0, eld0, elh0]
  clear elv0 elp0 elo0 elr0 eld0 elh0 rv rp ro rr rd rh fv fp fo fr fd fh
  have ka := Blk.new w 40 #[.int .i64 n, .int .i64 id, .int .i64 own, .int .i64 view, .int .i64 left, .slice Av lv0 cv, .int .i64 lv, .int .i64 lx, .int .i64 dn, .slice Ap lp0 cp, .slice Ao lo0 co, .slice Ar lr0 cr, .slice Ad ld0 cd, .slice Ah lh0 ch]
  have hB := up_ (Below.refl w.heap.size w) (.cells #[.int .i64 n, .int .i64 id, .int .i64 own, .int .i64 view, .int .i64 left, .slice Av lv0 cv, .int .i64 lv, .int .i64 lx, .int .i64 dn, .slice Ap lp0 cp, .slice Ao lo0 co, .slice Ar lr0 cr, .slice Ad ld0 cd, .slice Ah lh0 ch] 40)
  go_enter Try.func42, Try.ntmps42
  have ra := ka.rule
  go_wp2_with (first | (go_at_call 80; refine (implSize_is n true HS.out _).mono ?_; rintro e w1 ⟨rfl, h1⟩; obtain rfl := h1.symm) | (go_at_call 81; refine (implVal_is own true H3.out _).mono ?_; rintro e w1 ⟨rfl, h1⟩; obtain rfl := h1.symm) | (go_at_call 82; refine (implView_is view true H4.out _).mono ?_; rintro e w1 ⟨rfl, h1⟩; obtain rfl := h1.symm))
  have C0 := fun x => lat_blk ka x
  have HB := Lib.hid (fun (x : Lat (w.alloc (.cells #[.int .i64 n, .int .i64 id, .int .i64 own, .int .i64 view, .int .i64 left, .slice Av lv0 cv, .int .i64 lv, .int .i64 lx, .int .i64 dn, .slice Ap lp0 cp, .slice Ao lo0 co, .slice Ar lr0 cr, .slice Ad ld0 cd, .slice Ah lh0 ch] 40))) => on_ (up_ (Below.refl w.heap.size w) _) x.below)
  clear ra
  refine wp_region_lat (by kernel_rfl) (by kernel_rfl) ?_
  repeat (go_big_quiet_step (fail))
  refine wpQuiet_nil ?_
  rintro w3 ⟨⟨_, hb3⟩, rfl⟩
  have hB3 : Below w.heap.size w w3 := HB.out ⟨_, hb3⟩
  have ka3 := ka.on hb3
  clear C0 ka hB hb3 HB
  go_wp2
  go_ret
  exact ⟨rfl, hB3⟩

set_option maxHeartbeats 3200000 in
theorem implRepOk_f6 (q : Rq) (w : World) (hr : RdQ w w.heap.size q) (hf : FewQ q) (hs_ : sizeB q.n = true) (h1 : decide (0 ≤ q.id) = true) (h2 : decide (q.id < q.n) = true) (h3 : valOkB q.own = true) (h4 : viewOkB q.view = true) (h5 : decide (1 ≤ q.left) = true) (h6 : decide (q.left ≤ 3 + q.view) = false) :
    Calls Try.prog 42 #[q.agg] w fun e w' => e = .returned (.bool false) ∧ Below w.heap.size w w' := by
  obtain ⟨n, id, own, view, left, voted, lv, lx, dn, pr, vo, re, ds, hs, Av, Ap, Ao, Ar, Ad, Ah, cv, cp, co, cr, cd, ch⟩ := q
  obtain ⟨rv, rp, ro, rr, rd, rh⟩ := hr
  obtain ⟨fv, fp, fo, fr, fd, fh⟩ := hf
  simp only [Rq.agg, Rq.cells] at *
  have hb : 0 ≤ view ∧ view ≤ 9 := by simpa [viewOkB] using h4
  obtain ⟨hv0, hv9⟩ := hb
  obtain ⟨y, hy⟩ : ∃ y, 3 + view = y := ⟨_, rfl⟩
  obtain ⟨u, hu⟩ : ∃ u, view + 1 = u := ⟨_, rfl⟩
  have hw : IntKind.i64.wrap (view + 1) = u := by rw [← hu]; exact IntWalk.i64_in _ (by omega)
  have hyb : 3 ≤ y ∧ y ≤ 12 := by omega
  obtain ⟨hyb1, hyb2⟩ := hyb
  have hu10 : u ≤ 10 := by omega
  rw [hy] at h6
  have HY := Lib.hid hy; have HU := Lib.hid hu; clear hy hu
  have HS := Lib.hid hs_; clear hs_
  have d1 : decide (id < 0) = false := by simp at h1 ⊢; omega
  have d2 : decide (n ≤ id) = false := by simp at h2 ⊢; omega
  have H3 := Lib.hid h3; clear h3
  have H4 := Lib.hid h4; clear h4
  have d3 : decide (left < 1) = false := by simp at h5 ⊢; omega
  have d4 : decide (y < left) = true := by simp at h6 ⊢; omega
  clear hu10
  have g1 : 0 ≤ id := by simpa using h1
  have g2 : id < n := by simpa using h2
  have E1 := Lib.hid h1; clear h1
  have E2 := Lib.hid h2; clear h2
  have E5 := Lib.hid h5; clear h5
  have E6 := Lib.hid h6; clear h6
  obtain ⟨lv0, elv0⟩ : ∃ m, voted.length = m := ⟨_, rfl⟩
  obtain ⟨lp0, elp0⟩ : ∃ m, pr.length = m := ⟨_, rfl⟩
  obtain ⟨lo0, elo0⟩ : ∃ m, vo.length = m := ⟨_, rfl⟩
  obtain ⟨lr0, elr0⟩ : ∃ m, re.length = m := ⟨_, rfl⟩
  obtain ⟨ld0, eld0⟩ : ∃ m, ds.length = m := ⟨_, rfl⟩
  obtain ⟨lh0, elh0⟩ : ∃ m, hs.length = m := ⟨_, rfl⟩
  simp only [elv0, elp0, elo0, elr0, eld0, elh0]
  clear elv0 elp0 elo0 elr0 eld0 elh0 rv rp ro rr rd rh fv fp fo fr fd fh
  have ka := Blk.new w 40 #[.int .i64 n, .int .i64 id, .int .i64 own, .int .i64 view, .int .i64 left, .slice Av lv0 cv, .int .i64 lv, .int .i64 lx, .int .i64 dn, .slice Ap lp0 cp, .slice Ao lo0 co, .slice Ar lr0 cr, .slice Ad ld0 cd, .slice Ah lh0 ch]
  have hB := up_ (Below.refl w.heap.size w) (.cells #[.int .i64 n, .int .i64 id, .int .i64 own, .int .i64 view, .int .i64 left, .slice Av lv0 cv, .int .i64 lv, .int .i64 lx, .int .i64 dn, .slice Ap lp0 cp, .slice Ao lo0 co, .slice Ar lr0 cr, .slice Ad ld0 cd, .slice Ah lh0 ch] 40)
  go_enter Try.func42, Try.ntmps42
  have ra := ka.rule
  go_wp2_with (first | (go_at_call 80; refine (implSize_is n true HS.out _).mono ?_; rintro e w1 ⟨rfl, h1⟩; obtain rfl := h1.symm) | (go_at_call 81; refine (implVal_is own true H3.out _).mono ?_; rintro e w1 ⟨rfl, h1⟩; obtain rfl := h1.symm) | (go_at_call 82; refine (implView_is view true H4.out _).mono ?_; rintro e w1 ⟨rfl, h1⟩; obtain rfl := h1.symm))
  have C0 := fun x => lat_blk ka x
  have HB := Lib.hid (fun (x : Lat (w.alloc (.cells #[.int .i64 n, .int .i64 id, .int .i64 own, .int .i64 view, .int .i64 left, .slice Av lv0 cv, .int .i64 lv, .int .i64 lx, .int .i64 dn, .slice Ap lp0 cp, .slice Ao lo0 co, .slice Ar lr0 cr, .slice Ad ld0 cd, .slice Ah lh0 ch] 40))) => on_ (up_ (Below.refl w.heap.size w) _) x.below)
  clear ra
  refine wp_region_lat (by kernel_rfl) (by kernel_rfl) ?_
  repeat (go_big_quiet_step ((first | (go_at_call 83; exact lat_same _ (timer_is view y H4.out HY.out _)))))
  refine wpQuiet_nil ?_
  rintro w3 ⟨⟨_, hb3⟩, rfl⟩
  have hB3 : Below w.heap.size w w3 := HB.out ⟨_, hb3⟩
  have ka3 := ka.on hb3
  clear C0 ka hB hb3 HB
  go_wp2
  go_ret
  exact ⟨rfl, hB3⟩

set_option maxHeartbeats 3200000 in
theorem implRepOk_f7 (q : Rq) (w : World) (hr : RdQ w w.heap.size q) (hf : FewQ q) (hs_ : sizeB q.n = true) (h1 : decide (0 ≤ q.id) = true) (h2 : decide (q.id < q.n) = true) (h3 : valOkB q.own = true) (h4 : viewOkB q.view = true) (h5 : decide (1 ≤ q.left) = true) (h6 : decide (q.left ≤ 3 + q.view) = true) (h7 : votesOkB q.voted (q.view + 1) = false) :
    Calls Try.prog 42 #[q.agg] w fun e w' => e = .returned (.bool false) ∧ Below w.heap.size w w' := by
  obtain ⟨n, id, own, view, left, voted, lv, lx, dn, pr, vo, re, ds, hs, Av, Ap, Ao, Ar, Ad, Ah, cv, cp, co, cr, cd, ch⟩ := q
  obtain ⟨rv, rp, ro, rr, rd, rh⟩ := hr
  obtain ⟨fv, fp, fo, fr, fd, fh⟩ := hf
  simp only [Rq.agg, Rq.cells] at *
  have hb : 0 ≤ view ∧ view ≤ 9 := by simpa [viewOkB] using h4
  obtain ⟨hv0, hv9⟩ := hb
  obtain ⟨y, hy⟩ : ∃ y, 3 + view = y := ⟨_, rfl⟩
  obtain ⟨u, hu⟩ : ∃ u, view + 1 = u := ⟨_, rfl⟩
  have hw : IntKind.i64.wrap (view + 1) = u := by rw [← hu]; exact IntWalk.i64_in _ (by omega)
  have hyb : 3 ≤ y ∧ y ≤ 12 := by omega
  obtain ⟨hyb1, hyb2⟩ := hyb
  have hu10 : u ≤ 10 := by omega
  rw [hy] at h6
  rw [hu] at h7
  have HY := Lib.hid hy; have HU := Lib.hid hu; clear hy hu
  have HS := Lib.hid hs_; clear hs_
  have d1 : decide (id < 0) = false := by simp at h1 ⊢; omega
  have d2 : decide (n ≤ id) = false := by simp at h2 ⊢; omega
  have H3 := Lib.hid h3; clear h3
  have H4 := Lib.hid h4; clear h4
  have d3 : decide (left < 1) = false := by simp at h5 ⊢; omega
  have d4 : decide (y < left) = false := by simp at h6 ⊢; omega
  have H7 := Lib.hid h7; clear h7
  have HV := Lib.hid (fun (W : World) (h : Below w.heap.size w W) => implVotesOk_is false Av cv voted u H7.out W ((rv.below h).more h.size) fv)
  clear hu10
  have g1 : 0 ≤ id := by simpa using h1
  have g2 : id < n := by simpa using h2
  have E1 := Lib.hid h1; clear h1
  have E2 := Lib.hid h2; clear h2
  have E5 := Lib.hid h5; clear h5
  have E6 := Lib.hid h6; clear h6
  obtain ⟨lv0, elv0⟩ : ∃ m, voted.length = m := ⟨_, rfl⟩
  obtain ⟨lp0, elp0⟩ : ∃ m, pr.length = m := ⟨_, rfl⟩
  obtain ⟨lo0, elo0⟩ : ∃ m, vo.length = m := ⟨_, rfl⟩
  obtain ⟨lr0, elr0⟩ : ∃ m, re.length = m := ⟨_, rfl⟩
  obtain ⟨ld0, eld0⟩ : ∃ m, ds.length = m := ⟨_, rfl⟩
  obtain ⟨lh0, elh0⟩ : ∃ m, hs.length = m := ⟨_, rfl⟩
  simp only [elv0, elp0, elo0, elr0, eld0, elh0] at HV ⊢
  clear elv0 elp0 elo0 elr0 eld0 elh0 rv rp ro rr rd rh fv fp fo fr fd fh
  have ka := Blk.new w 40 #[.int .i64 n, .int .i64 id, .int .i64 own, .int .i64 view, .int .i64 left, .slice Av lv0 cv, .int .i64 lv, .int .i64 lx, .int .i64 dn, .slice Ap lp0 cp, .slice Ao lo0 co, .slice Ar lr0 cr, .slice Ad ld0 cd, .slice Ah lh0 ch]
  have hB := up_ (Below.refl w.heap.size w) (.cells #[.int .i64 n, .int .i64 id, .int .i64 own, .int .i64 view, .int .i64 left, .slice Av lv0 cv, .int .i64 lv, .int .i64 lx, .int .i64 dn, .slice Ap lp0 cp, .slice Ao lo0 co, .slice Ar lr0 cr, .slice Ad ld0 cd, .slice Ah lh0 ch] 40)
  go_enter Try.func42, Try.ntmps42
  have ra := ka.rule
  go_wp2_with (first | (go_at_call 80; refine (implSize_is n true HS.out _).mono ?_; rintro e w1 ⟨rfl, h1⟩; obtain rfl := h1.symm) | (go_at_call 81; refine (implVal_is own true H3.out _).mono ?_; rintro e w1 ⟨rfl, h1⟩; obtain rfl := h1.symm) | (go_at_call 82; refine (implView_is view true H4.out _).mono ?_; rintro e w1 ⟨rfl, h1⟩; obtain rfl := h1.symm))
  have C0 := fun x => lat_blk ka x
  have HB := Lib.hid (fun (x : Lat (w.alloc (.cells #[.int .i64 n, .int .i64 id, .int .i64 own, .int .i64 view, .int .i64 left, .slice Av lv0 cv, .int .i64 lv, .int .i64 lx, .int .i64 dn, .slice Ap lp0 cp, .slice Ao lo0 co, .slice Ar lr0 cr, .slice Ad ld0 cd, .slice Ah lh0 ch] 40))) => on_ (up_ (Below.refl w.heap.size w) _) x.below)
  clear ra
  refine wp_region_lat (by kernel_rfl) (by kernel_rfl) ?_
  repeat (go_big_quiet_step ((first | (go_at_call 83; exact lat_same _ (timer_is view y H4.out HY.out _)) | (go_at_call 84; exact lat_call _ (HV.out _ (HB.out _))))))
  refine wpQuiet_nil ?_
  rintro w3 ⟨⟨_, hb3⟩, rfl⟩
  have hB3 : Below w.heap.size w w3 := HB.out ⟨_, hb3⟩
  have ka3 := ka.on hb3
  clear C0 ka hB hb3 HB
  go_wp2
  go_ret
  exact ⟨rfl, hB3⟩

set_option maxHeartbeats 3200000 in
theorem implRepOk_f8 (q : Rq) (w : World) (hr : RdQ w w.heap.size q) (hf : FewQ q) (hs_ : sizeB q.n = true) (h1 : decide (0 ≤ q.id) = true) (h2 : decide (q.id < q.n) = true) (h3 : valOkB q.own = true) (h4 : viewOkB q.view = true) (h5 : decide (1 ≤ q.left) = true) (h6 : decide (q.left ≤ 3 + q.view) = true) (h7 : votesOkB q.voted (q.view + 1) = true) (h8 : lockOkB q.lv q.lx (q.view + 1) = false) :
    Calls Try.prog 42 #[q.agg] w fun e w' => e = .returned (.bool false) ∧ Below w.heap.size w w' := by
  obtain ⟨n, id, own, view, left, voted, lv, lx, dn, pr, vo, re, ds, hs, Av, Ap, Ao, Ar, Ad, Ah, cv, cp, co, cr, cd, ch⟩ := q
  obtain ⟨rv, rp, ro, rr, rd, rh⟩ := hr
  obtain ⟨fv, fp, fo, fr, fd, fh⟩ := hf
  simp only [Rq.agg, Rq.cells] at *
  have hb : 0 ≤ view ∧ view ≤ 9 := by simpa [viewOkB] using h4
  obtain ⟨hv0, hv9⟩ := hb
  obtain ⟨y, hy⟩ : ∃ y, 3 + view = y := ⟨_, rfl⟩
  obtain ⟨u, hu⟩ : ∃ u, view + 1 = u := ⟨_, rfl⟩
  have hw : IntKind.i64.wrap (view + 1) = u := by rw [← hu]; exact IntWalk.i64_in _ (by omega)
  have hyb : 3 ≤ y ∧ y ≤ 12 := by omega
  obtain ⟨hyb1, hyb2⟩ := hyb
  have hu10 : u ≤ 10 := by omega
  rw [hy] at h6
  rw [hu] at h7
  rw [hu] at h8
  have HY := Lib.hid hy; have HU := Lib.hid hu; clear hy hu
  have HS := Lib.hid hs_; clear hs_
  have d1 : decide (id < 0) = false := by simp at h1 ⊢; omega
  have d2 : decide (n ≤ id) = false := by simp at h2 ⊢; omega
  have H3 := Lib.hid h3; clear h3
  have H4 := Lib.hid h4; clear h4
  have d3 : decide (left < 1) = false := by simp at h5 ⊢; omega
  have d4 : decide (y < left) = false := by simp at h6 ⊢; omega
  have H7 := Lib.hid h7; clear h7
  have HV := Lib.hid (fun (W : World) (h : Below w.heap.size w W) => implVotesOk_is true Av cv voted u H7.out W ((rv.below h).more h.size) fv)
  have H8 := Lib.hid ((lock_ten hu10).trans h8); clear h8
  clear hu10
  have g1 : 0 ≤ id := by simpa using h1
  have g2 : id < n := by simpa using h2
  have E1 := Lib.hid h1; clear h1
  have E2 := Lib.hid h2; clear h2
  have E5 := Lib.hid h5; clear h5
  have E6 := Lib.hid h6; clear h6
  obtain ⟨lv0, elv0⟩ : ∃ m, voted.length = m := ⟨_, rfl⟩
  obtain ⟨lp0, elp0⟩ : ∃ m, pr.length = m := ⟨_, rfl⟩
  obtain ⟨lo0, elo0⟩ : ∃ m, vo.length = m := ⟨_, rfl⟩
  obtain ⟨lr0, elr0⟩ : ∃ m, re.length = m := ⟨_, rfl⟩
  obtain ⟨ld0, eld0⟩ : ∃ m, ds.length = m := ⟨_, rfl⟩
  obtain ⟨lh0, elh0⟩ : ∃ m, hs.length = m := ⟨_, rfl⟩
  simp only [elv0, elp0, elo0, elr0, eld0, elh0] at HV ⊢
  clear elv0 elp0 elo0 elr0 eld0 elh0 rv rp ro rr rd rh fv fp fo fr fd fh
  have ka := Blk.new w 40 #[.int .i64 n, .int .i64 id, .int .i64 own, .int .i64 view, .int .i64 left, .slice Av lv0 cv, .int .i64 lv, .int .i64 lx, .int .i64 dn, .slice Ap lp0 cp, .slice Ao lo0 co, .slice Ar lr0 cr, .slice Ad ld0 cd, .slice Ah lh0 ch]
  have hB := up_ (Below.refl w.heap.size w) (.cells #[.int .i64 n, .int .i64 id, .int .i64 own, .int .i64 view, .int .i64 left, .slice Av lv0 cv, .int .i64 lv, .int .i64 lx, .int .i64 dn, .slice Ap lp0 cp, .slice Ao lo0 co, .slice Ar lr0 cr, .slice Ad ld0 cd, .slice Ah lh0 ch] 40)
  go_enter Try.func42, Try.ntmps42
  have ra := ka.rule
  go_wp2_with (first | (go_at_call 80; refine (implSize_is n true HS.out _).mono ?_; rintro e w1 ⟨rfl, h1⟩; obtain rfl := h1.symm) | (go_at_call 81; refine (implVal_is own true H3.out _).mono ?_; rintro e w1 ⟨rfl, h1⟩; obtain rfl := h1.symm) | (go_at_call 82; refine (implView_is view true H4.out _).mono ?_; rintro e w1 ⟨rfl, h1⟩; obtain rfl := h1.symm))
  have C0 := fun x => lat_blk ka x
  have HB := Lib.hid (fun (x : Lat (w.alloc (.cells #[.int .i64 n, .int .i64 id, .int .i64 own, .int .i64 view, .int .i64 left, .slice Av lv0 cv, .int .i64 lv, .int .i64 lx, .int .i64 dn, .slice Ap lp0 cp, .slice Ao lo0 co, .slice Ar lr0 cr, .slice Ad ld0 cd, .slice Ah lh0 ch] 40))) => on_ (up_ (Below.refl w.heap.size w) _) x.below)
  clear ra
  refine wp_region_lat (by kernel_rfl) (by kernel_rfl) ?_
  repeat (go_big_quiet_step ((first | (go_at_call 83; exact lat_same _ (timer_is view y H4.out HY.out _)) | (go_at_call 84; exact lat_call _ (HV.out _ (HB.out _))) | (go_at_call 85; exact lat_call _ (lockOk_is false lv lx u H8.out _)))))
  refine wpQuiet_nil ?_
  rintro w3 ⟨⟨_, hb3⟩, rfl⟩
  have hB3 : Below w.heap.size w w3 := HB.out ⟨_, hb3⟩
  have ka3 := ka.on hb3
  clear C0 ka hB hb3 HB
  go_wp2
  go_ret
  exact ⟨rfl, hB3⟩

set_option maxHeartbeats 6400000 in
theorem implRepOk_rest (z : Bool) (q : Rq) (w : World) (hr : RdQ w w.heap.size q) (hf : FewQ q) (hs_ : sizeB q.n = true) (h1 : decide (0 ≤ q.id) = true) (h2 : decide (q.id < q.n) = true) (h3 : valOkB q.own = true) (h4 : viewOkB q.view = true) (h5 : decide (1 ≤ q.left) = true) (h6 : decide (q.left ≤ 3 + q.view) = true) (h7 : votesOkB q.voted (q.view + 1) = true) (h8 : lockOkB q.lv q.lx (q.view + 1) = true) (hz : (doneQ q.dn && (talsQ q.dat && heardB q.n (hl q.hs))) = z) :
    Calls Try.prog 42 #[q.agg] w fun e w' => e = .returned (.bool z) ∧ Below w.heap.size w w' := by
  obtain ⟨tt, htt⟩ : ∃ t, talsQ q.dat = t := ⟨_, rfl⟩
  obtain ⟨th_, hth⟩ : ∃ t, heardB q.n (hl q.hs) = t := ⟨_, rfl⟩
  rw [htt, hth] at hz
  have HT := Lib.hid (fun (W : World) (h : Below w.heap.size w W) => implTallies_is tt q htt W ((hr.below h).more h.size) hf)
  have HH := Lib.hid (fun (W : World) (h : Below w.heap.size w W) => implHeard_is th_ q hth W ((hr.below h).more h.size) hf)
  clear htt hth
  obtain ⟨n, id, own, view, left, voted, lv, lx, dn, pr, vo, re, ds, hs, Av, Ap, Ao, Ar, Ad, Ah, cv, cp, co, cr, cd, ch⟩ := q
  obtain ⟨rv, rp, ro, rr, rd, rh⟩ := hr
  obtain ⟨fv, fp, fo, fr, fd, fh⟩ := hf
  simp only [Rq.agg, Rq.cells] at *
  have hb : 0 ≤ view ∧ view ≤ 9 := by simpa [viewOkB] using h4
  obtain ⟨hv0, hv9⟩ := hb
  obtain ⟨y, hy⟩ : ∃ y, 3 + view = y := ⟨_, rfl⟩
  obtain ⟨u, hu⟩ : ∃ u, view + 1 = u := ⟨_, rfl⟩
  have hw : IntKind.i64.wrap (view + 1) = u := by rw [← hu]; exact IntWalk.i64_in _ (by omega)
  have hyb : 3 ≤ y ∧ y ≤ 12 := by omega
  obtain ⟨hyb1, hyb2⟩ := hyb
  have hu10 : u ≤ 10 := by omega
  rw [hy] at h6
  rw [hu] at h7
  rw [hu] at h8
  have HY := Lib.hid hy; have HU := Lib.hid hu; clear hy hu
  have HS := Lib.hid hs_; clear hs_
  have d1 : decide (id < 0) = false := by simp at h1 ⊢; omega
  have d2 : decide (n ≤ id) = false := by simp at h2 ⊢; omega
  have H3 := Lib.hid h3; clear h3
  have H4 := Lib.hid h4; clear h4
  have d3 : decide (left < 1) = false := by simp at h5 ⊢; omega
  have d4 : decide (y < left) = false := by simp at h6 ⊢; omega
  have H7 := Lib.hid h7; clear h7
  have HV := Lib.hid (fun (W : World) (h : Below w.heap.size w W) => implVotesOk_is true Av cv voted u H7.out W ((rv.below h).more h.size) fv)
  have H8 := Lib.hid ((lock_ten hu10).trans h8); clear h8
  clear hu10
  have g1 : 0 ≤ id := by simpa using h1
  have g2 : id < n := by simpa using h2
  have E1 := Lib.hid h1; clear h1
  have E2 := Lib.hid h2; clear h2
  have E5 := Lib.hid h5; clear h5
  have E6 := Lib.hid h6; clear h6
  have HZ := Lib.hid hz; clear hz
  obtain ⟨lv0, elv0⟩ : ∃ m, voted.length = m := ⟨_, rfl⟩
  obtain ⟨lp0, elp0⟩ : ∃ m, pr.length = m := ⟨_, rfl⟩
  obtain ⟨lo0, elo0⟩ : ∃ m, vo.length = m := ⟨_, rfl⟩
  obtain ⟨lr0, elr0⟩ : ∃ m, re.length = m := ⟨_, rfl⟩
  obtain ⟨ld0, eld0⟩ : ∃ m, ds.length = m := ⟨_, rfl⟩
  obtain ⟨lh0, elh0⟩ : ∃ m, hs.length = m := ⟨_, rfl⟩
  simp only [elv0, elp0, elo0, elr0, eld0, elh0] at HV HT HH ⊢
  clear elv0 elp0 elo0 elr0 eld0 elh0 rv rp ro rr rd rh fv fp fo fr fd fh
  have ka := Blk.new w 40 #[.int .i64 n, .int .i64 id, .int .i64 own, .int .i64 view, .int .i64 left, .slice Av lv0 cv, .int .i64 lv, .int .i64 lx, .int .i64 dn, .slice Ap lp0 cp, .slice Ao lo0 co, .slice Ar lr0 cr, .slice Ad ld0 cd, .slice Ah lh0 ch]
  have hB := up_ (Below.refl w.heap.size w) (.cells #[.int .i64 n, .int .i64 id, .int .i64 own, .int .i64 view, .int .i64 left, .slice Av lv0 cv, .int .i64 lv, .int .i64 lx, .int .i64 dn, .slice Ap lp0 cp, .slice Ao lo0 co, .slice Ar lr0 cr, .slice Ad ld0 cd, .slice Ah lh0 ch] 40)
  go_enter Try.func42, Try.ntmps42
  have ra := ka.rule
  go_wp2_with (first | (go_at_call 80; refine (implSize_is n true HS.out _).mono ?_; rintro e w1 ⟨rfl, h1⟩; obtain rfl := h1.symm) | (go_at_call 81; refine (implVal_is own true H3.out _).mono ?_; rintro e w1 ⟨rfl, h1⟩; obtain rfl := h1.symm) | (go_at_call 82; refine (implView_is view true H4.out _).mono ?_; rintro e w1 ⟨rfl, h1⟩; obtain rfl := h1.symm))
  have C0 := fun x => lat_blk ka x
  have HB := Lib.hid (fun (x : Lat (w.alloc (.cells #[.int .i64 n, .int .i64 id, .int .i64 own, .int .i64 view, .int .i64 left, .slice Av lv0 cv, .int .i64 lv, .int .i64 lx, .int .i64 dn, .slice Ap lp0 cp, .slice Ao lo0 co, .slice Ar lr0 cr, .slice Ad ld0 cd, .slice Ah lh0 ch] 40))) => on_ (up_ (Below.refl w.heap.size w) _) x.below)
  clear ra
  refine wp_region_lat (by kernel_rfl) (by kernel_rfl) ?_
  repeat (go_big_quiet_step ((first | (go_at_call 83; exact lat_same _ (timer_is view y H4.out HY.out _)) | (go_at_call 84; exact lat_call _ (HV.out _ (HB.out _))) | (go_at_call 85; exact lat_call _ (lockOk_is true lv lx u H8.out _)))))
  refine wpQuiet_nil ?_
  rintro w3 ⟨⟨_, hb3⟩, rfl⟩
  have hB3 : Below w.heap.size w w3 := HB.out ⟨_, hb3⟩
  have ka3 := ka.on hb3
  clear C0 ka hB hb3 HB
  have ra3 := ka3.rule
  by_cases hd : dn = 0
  · subst hd
    have HDQ : Hid (doneQ 0 = true) := rfl
    go_wp2_with fail
    refine (HT.out _ hB3).mono ?_
    rintro e w4 ⟨rfl, hb4⟩
    have ka4 := ka3.on hb4; have hB4 := on_ hB3 hb4; clear ra3 ka3 hB3 hb4; have ra4 := ka4.rule
    rcases tt with _ | _
    · go_wp2
      go_ret
      exact ⟨ret_bool (by rw [← HZ.out, HDQ.out]; rfl), hB4⟩
    · go_wp2_with fail
      refine (HH.out _ hB4).mono ?_
      rintro e w5 ⟨rfl, hb5⟩
      have hB5 := on_ hB4 hb5; clear hb5
      go_wp2
      go_ret
      exact ⟨ret_bool (by rw [← HZ.out, HDQ.out]; simp), hB5⟩
  · have hd' : (dn == 0) = false := by simpa using hd
    obtain ⟨qd, hqd⟩ : ∃ t, valOkB dn = t := ⟨_, rfl⟩
    have HDQ : Hid (doneQ dn = qd) := by show _ = _; unfold doneQ; rw [hqd]; simp [hd]
    have HQD := Lib.hid hqd; clear hd hqd
    rcases qd with _ | _
    · go_wp2_with (go_at_call 81; refine (implVal_is dn false HQD.out _).mono ?_; rintro e w1 ⟨rfl, h1⟩; obtain rfl := h1.symm)
      go_ret
      exact ⟨ret_bool (by rw [← HZ.out, HDQ.out]; rfl), hB3⟩
    · go_wp2_with fail
      refine (implVal_is dn true HQD.out _).mono ?_
      rintro e w1 ⟨rfl, h1⟩
      obtain rfl := h1.symm
      go_wp2_with fail
      refine (HT.out _ hB3).mono ?_
      rintro e w4 ⟨rfl, hb4⟩
      have ka4 := ka3.on hb4; have hB4 := on_ hB3 hb4; clear ra3 ka3 hB3 hb4; have ra4 := ka4.rule
      rcases tt with _ | _
      · go_wp2
        go_ret
        exact ⟨ret_bool (by rw [← HZ.out, HDQ.out]; rfl), hB4⟩
      · go_wp2_with fail
        refine (HH.out _ hB4).mono ?_
        rintro e w5 ⟨rfl, hb5⟩
        have hB5 := on_ hB4 hb5; clear hb5
        go_wp2
        go_ret
        exact ⟨ret_bool (by rw [← HZ.out, HDQ.out]; simp), hB5⟩
end Go.Proofs.Ytfdfjmibjnmhpaa.V

namespace Go.Proofs.Ytfdfjmibjnmhpaa.V
open Go.RowKit Go.Proofs.Ytfdfjmibjnmhpaa.B

set_option maxHeartbeats 800000 in
theorem l4tally_is (q : Bool) (n : Int) (A : Option Addr) (c : Nat) (vs : List B3) (hq : talB n vs = q) (w : World) (hr : Rd3 w w.heap.size A vs) (hn : vs.length ≤ 1048576) :
    Calls Try.prog 75 #[.agg #[.slice A vs.length c], .int .i64 n] w fun e w' => e = .returned (.bool q) ∧ Below w.heap.size w w' := by
  obtain ⟨t, ht⟩ : ∃ t, tallyOkB vs = t := ⟨_, rfl⟩
  have HS := Lib.hid (fun (W : World) (g : Rd3 W W.heap.size A vs) => specTallyOk_is t A c vs ht W g hn)
  have HQ : Hid ((vs.all (below4 n) && t) = q) := by show _ = _; rw [← hq, ← ht]; rfl
  clear hq ht
  obtain ⟨m, hvn⟩ : ∃ m, vs.length = m := ⟨_, rfl⟩
  rw [hvn] at hn HS ⊢
  have HV := Lib.hid hvn; clear hvn
  have HB := Lib.hid (tally_box w A m c)
  go_enter Try.func75, Try.ntmps75
  go_wp2
  go_loopw [5] (fun i wr => ∃ (k : Nat), k ≤ m ∧ i = .int .i64 k ∧ Hid (∀ j, j < k → below4 n (vs.getD j z3) = true) ∧ Below (w.heap.size + 1) (w.alloc (.cells #[.slice A m c] 37)) wr) (fun i _ => m - (intOf i).toNat)
  case atStart => exact ⟨0, Nat.zero_le _, rfl, fun j hj => absurd hj (by omega), Below.refl _ _⟩
  case round =>
    obtain ⟨k, hk, rfl, hall, hbel⟩ := hrel
    obtain ⟨kb, hbw⟩ := HB.out wr hbel
    have hsz := hbel.size
    simp only [World.size_alloc] at hsz
    have rb : wr.cell? ⟨w.heap.size, 0, none⟩ = some (.slice A m c) := kb.cell 0
    by_cases hlt : k < m
    · obtain ⟨b, off, rfl, hb, hc0, hc1, hc2⟩ := Rd3.at_ (hr.below hbw) (k := k) (by rw [HV.out]; omega)
      clear hr HS
      have HG : Hid (below4 n (vs.getD k z3) = decide ((vs.getD k z3).1 < n)) := rfl
      obtain ⟨⟨ua, ub, uc⟩, hu⟩ : ∃ v, vs.getD k z3 = v := ⟨_, rfl⟩
      rw [hu] at hc0 hc1 hc2 HG
      have HU := Lib.hid hu; clear hu
      by_cases hx : ua < n
      · go_wp2
        go_roundw
        case rel =>
          refine ⟨k + 1, by omega, by go_num, fun j hj => ?_, hbel⟩
          by_cases e : j = k
          · rw [e, HU.out, HG.out]; simpa using hx
          · exact hall.out j (by omega)
        case measure => simp [intOf]; omega
      · go_wp2
        go_ret
        refine ⟨ret_bool ?_, hbw⟩
        rw [← HQ.out, all_take_no (below4 n) vs z3 k (by rw [HV.out]; omega) (by rw [HU.out, HG.out]; simpa using hx)]
        rfl
    · have hr1 := (hr.below hbw).more (Bd' := wr.heap.size) (by omega)
      go_wp2_with fail
      refine (HS.out wr hr1).mono ?_
      rintro e w1 ⟨rfl, hb1⟩
      go_wp2
      go_ret
      refine ⟨ret_bool ?_, hbw.trans (hb1.mono (by omega))⟩
      rw [← HQ.out, all_of (below4 n) vs z3 (fun j hj => hall.out j (by rw [HV.out] at hj; omega))]
      rfl
end Go.Proofs.Ytfdfjmibjnmhpaa.V
