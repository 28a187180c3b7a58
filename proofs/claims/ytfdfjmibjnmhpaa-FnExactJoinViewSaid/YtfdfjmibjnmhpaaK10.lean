/-
  RepOk of the model: what the first test refuses. RepOk of the model: what the later tests say. No statement is proved here.
-/
import Derived.Test.YtfdfjmibjnmhpaaK09
import Derived.Test.YtfdfjmibjnmhpaaK07
import Derived.Deep.RegionWith
set_option linter.unusedVariables false
set_option maxRecDepth 100000
namespace Go.Proofs.Ytfdfjmibjnmhpaa.V
open Go.RowKit Go.Proofs.Ytfdfjmibjnmhpaa.B

theorem wait_is (view y : Int) (h : viewOkB view = true) (hy : 3 + view = y) (w : World) : Calls Try.prog 73 #[.int .i64 view] w fun e w' => e = .returned (.int .i64 y) ∧ w' = w := by
  subst hy
  have h1 : 0 ≤ view ∧ view ≤ 9 := by simpa [viewOkB] using h
  obtain ⟨h2, h3⟩ := h1
  clear h
  go_enter Try.func73, Try.ntmps73
  go_wp2
  go_ret
  exact ⟨rfl, rfl⟩

set_option maxHeartbeats 3200000 in
theorem specRepOk_f0 (q : Rq) (w : World) (hr : RdQ w w.heap.size q) (hf : FewQ q) (hs : sizeB q.n = false) :
    Calls Try.prog 36 #[q.agg] w fun e w' => e = .returned (.bool false) ∧ Below w.heap.size w w' := by
  obtain ⟨n, id, own, view, left, voted, lv, lx, dn, pr, vo, re, ds, hs, Av, Ap, Ao, Ar, Ad, Ah, cv, cp, co, cr, cd, ch⟩ := q
  obtain ⟨rv, rp, ro, rr, rd, rh⟩ := hr
  obtain ⟨fv, fp, fo, fr, fd, fh⟩ := hf
  simp only [Rq.agg, Rq.cells] at *
  have HS := Lib.hid hs; clear hs
  obtain ⟨lv0, elv0⟩ : ∃ m, voted.length = m := ⟨_, rfl⟩
  obtain ⟨lp0, elp0⟩ : ∃ m, pr.length = m := ⟨_, rfl⟩
  obtain ⟨lo0, elo0⟩ : ∃ m, vo.length = m := ⟨_, rfl⟩
  obtain ⟨lr0, elr0⟩ : ∃ m, re.length = m := ⟨_, rfl⟩
  obtain ⟨ld0, eld0⟩ : ∃ m, ds.length = m := ⟨_, rfl⟩
  obtain ⟨lh0, elh0⟩ : ∃ m, hs.length = m := ⟨_, rfl⟩
  simp only [elv0, elp0, elo0, elr0, eld0, elh0]
  clear elv0 elp0 elo0 elr0 eld0 elh0 rv rp ro rr rd rh fv fp fo fr fd fh
  have ka := Blk.new w 40 #[.int .i64 n, .int .i64 id, .int .i64 own, .int .i64 view, .int .i64 left, .slice Av lv0 cv, .int .i64 lv, .int .i64 lx, .int .i64 dn, .slice Ap lp0 cp, .slice Ao lo0 co, .slice Ar lr0 cr, .slice Ad ld0 cd, .slice Ah lh0 ch]
  have C0 := fun x => lat_blk ka x
  have HB := Lib.hid (fun (x : Lat (w.alloc (.cells #[.int .i64 n, .int .i64 id, .int .i64 own, .int .i64 view, .int .i64 left, .slice Av lv0 cv, .int .i64 lv, .int .i64 lx, .int .i64 dn, .slice Ap lp0 cp, .slice Ao lo0 co, .slice Ar lr0 cr, .slice Ad ld0 cd, .slice Ah lh0 ch] 40))) => on_ (up_ (Below.refl w.heap.size w) _) x.below)
  go_enter Try.func36, Try.ntmps36
  go_wp2
  refine wp_region_lat (by kernel_rfl) (by kernel_rfl) ?_
  repeat (go_big_quiet_step ((first | (go_at_call 70; exact lat_same _ (specSize_is n false HS.out _)))))
  refine wpQuiet_nil ?_
  rintro w3 ⟨⟨_, hb3⟩, rfl⟩
  have hB3 := HB.out ⟨_, hb3⟩
  clear C0 ka
  go_wp2
  go_ret
  exact ⟨rfl, hB3⟩

set_option maxHeartbeats 3200000 in
theorem specRepOk_f1 (q : Rq) (w : World) (hr : RdQ w w.heap.size q) (hf : FewQ q) (hs : sizeB q.n = true) (h1 : decide (0 ≤ q.id) = false) :
    Calls Try.prog 36 #[q.agg] w fun e w' => e = .returned (.bool false) ∧ Below w.heap.size w w' := by
  obtain ⟨n, id, own, view, left, voted, lv, lx, dn, pr, vo, re, ds, hs, Av, Ap, Ao, Ar, Ad, Ah, cv, cp, co, cr, cd, ch⟩ := q
  obtain ⟨rv, rp, ro, rr, rd, rh⟩ := hr
  obtain ⟨fv, fp, fo, fr, fd, fh⟩ := hf
  simp only [Rq.agg, Rq.cells] at *
  have HS := Lib.hid hs; clear hs
  have d1 : decide (id < 0) = true := by simp at h1 ⊢; omega
  have E1 := Lib.hid h1; clear h1
  obtain ⟨lv0, elv0⟩ : ∃ m, voted.length = m := ⟨_, rfl⟩
  obtain ⟨lp0, elp0⟩ : ∃ m, pr.length = m := ⟨_, rfl⟩
  obtain ⟨lo0, elo0⟩ : ∃ m, vo.length = m := ⟨_, rfl⟩
  obtain ⟨lr0, elr0⟩ : ∃ m, re.length = m := ⟨_, rfl⟩
  obtain ⟨ld0, eld0⟩ : ∃ m, ds.length = m := ⟨_, rfl⟩
  obtain ⟨lh0, elh0⟩ : ∃ m, hs.length = m := ⟨_, rfl⟩
  simp only [elv0, elp0, elo0, elr0, eld0, elh0]
  clear elv0 elp0 elo0 elr0 eld0 elh0 rv rp ro rr rd rh fv fp fo fr fd fh
  have ka := Blk.new w 40 #[.int .i64 n, .int .i64 id, .int .i64 own, .int .i64 view, .int .i64 left, .slice Av lv0 cv, .int .i64 lv, .int .i64 lx, .int .i64 dn, .slice Ap lp0 cp, .slice Ao lo0 co, .slice Ar lr0 cr, .slice Ad ld0 cd, .slice Ah lh0 ch]
  have C0 := fun x => lat_blk ka x
  have HB := Lib.hid (fun (x : Lat (w.alloc (.cells #[.int .i64 n, .int .i64 id, .int .i64 own, .int .i64 view, .int .i64 left, .slice Av lv0 cv, .int .i64 lv, .int .i64 lx, .int .i64 dn, .slice Ap lp0 cp, .slice Ao lo0 co, .slice Ar lr0 cr, .slice Ad ld0 cd, .slice Ah lh0 ch] 40))) => on_ (up_ (Below.refl w.heap.size w) _) x.below)
  go_enter Try.func36, Try.ntmps36
  go_wp2
  refine wp_region_lat (by kernel_rfl) (by kernel_rfl) ?_
  repeat (go_big_quiet_step ((first | (go_at_call 70; exact lat_same _ (specSize_is n true HS.out _)))))
  refine wpQuiet_nil ?_
  rintro w3 ⟨⟨_, hb3⟩, rfl⟩
  have hB3 := HB.out ⟨_, hb3⟩
  clear C0 ka
  go_wp2
  go_ret
  exact ⟨rfl, hB3⟩

set_option maxHeartbeats 3200000 in
theorem specRepOk_f2 (q : Rq) (w : World) (hr : RdQ w w.heap.size q) (hf : FewQ q) (hs : sizeB q.n = true) (h1 : decide (0 ≤ q.id) = true) (h2 : decide (q.id < q.n) = false) :
    Calls Try.prog 36 #[q.agg] w fun e w' => e = .returned (.bool false) ∧ Below w.heap.size w w' := by
  obtain ⟨n, id, own, view, left, voted, lv, lx, dn, pr, vo, re, ds, hs, Av, Ap, Ao, Ar, Ad, Ah, cv, cp, co, cr, cd, ch⟩ := q
  obtain ⟨rv, rp, ro, rr, rd, rh⟩ := hr
  obtain ⟨fv, fp, fo, fr, fd, fh⟩ := hf
  simp only [Rq.agg, Rq.cells] at *
  have HS := Lib.hid hs; clear hs
  have d1 : decide (id < 0) = false := by simp at h1 ⊢; omega
  have d2 : decide (n ≤ id) = true := by simp at h2 ⊢; omega
  have g1 : 0 ≤ id := by simpa using h1
  have E1 := Lib.hid h1; clear h1
  have E2 := Lib.hid h2; clear h2
  obtain ⟨lv0, elv0⟩ : ∃ m, voted.length = m := ⟨_, rfl⟩
  obtain ⟨lp0, elp0⟩ : ∃ m, pr.length = m := ⟨_, rfl⟩
  obtain ⟨lo0, elo0⟩ : ∃ m, vo.length = m := ⟨_, rfl⟩
  obtain ⟨lr0, elr0⟩ : ∃ m, re.length = m := ⟨_, rfl⟩
  obtain ⟨ld0, eld0⟩ : ∃ m, ds.length = m := ⟨_, rfl⟩
  obtain ⟨lh0, elh0⟩ : ∃ m, hs.length = m := ⟨_, rfl⟩
  simp only [elv0, elp0, elo0, elr0, eld0, elh0]
  clear elv0 elp0 elo0 elr0 eld0 elh0 rv rp ro rr rd rh fv fp fo fr fd fh
  have ka := Blk.new w 40 #[.int .i64 n, .int .i64 id, .int .i64 own, .int .i64 view, .int .i64 left, .slice Av lv0 cv, .int .i64 lv, .int .i64 lx, .int .i64 dn, .slice Ap lp0 cp, .slice Ao lo0 co, .slice Ar lr0 cr, .slice Ad ld0 cd, .slice Ah lh0 ch]
  have C0 := fun x => lat_blk ka x
  have HB := Lib.hid (fun (x : Lat (w.alloc (.cells #[.int .i64 n, .int .i64 id, .int .i64 own, .int .i64 view, .int .i64 left, .slice Av lv0 cv, .int .i64 lv, .int .i64 lx, .int .i64 dn, .slice Ap lp0 cp, .slice Ao lo0 co, .slice Ar lr0 cr, .slice Ad ld0 cd, .slice Ah lh0 ch] 40))) => on_ (up_ (Below.refl w.heap.size w) _) x.below)
  go_enter Try.func36, Try.ntmps36
  go_wp2
  refine wp_region_lat (by kernel_rfl) (by kernel_rfl) ?_
  repeat (go_big_quiet_step ((first | (go_at_call 70; exact lat_same _ (specSize_is n true HS.out _)))))
  refine wpQuiet_nil ?_
  rintro w3 ⟨⟨_, hb3⟩, rfl⟩
  have hB3 := HB.out ⟨_, hb3⟩
  clear C0 ka
  go_wp2
  go_ret
  exact ⟨rfl, hB3⟩

set_option maxHeartbeats 3200000 in
theorem specRepOk_f3 (q : Rq) (w : World) (hr : RdQ w w.heap.size q) (hf : FewQ q) (hs : sizeB q.n = true) (h1 : decide (0 ≤ q.id) = true) (h2 : decide (q.id < q.n) = true) (h3 : valOkB q.own = false) :
    Calls Try.prog 36 #[q.agg] w fun e w' => e = .returned (.bool false) ∧ Below w.heap.size w w' := by
  obtain ⟨n, id, own, view, left, voted, lv, lx, dn, pr, vo, re, ds, hs, Av, Ap, Ao, Ar, Ad, Ah, cv, cp, co, cr, cd, ch⟩ := q
  obtain ⟨rv, rp, ro, rr, rd, rh⟩ := hr
  obtain ⟨fv, fp, fo, fr, fd, fh⟩ := hf
  simp only [Rq.agg, Rq.cells] at *
  have HS := Lib.hid hs; clear hs
  have d1 : decide (id < 0) = false := by simp at h1 ⊢; omega
  have d2 : decide (n ≤ id) = false := by simp at h2 ⊢; omega
  have H3 := Lib.hid h3; clear h3
  have g1 : 0 ≤ id := by simpa using h1
  have g2 : id < n := by simpa using h2
  have E1 := Lib.hid h1; clear h1
  have E2 := Lib.hid h2; clear h2
  obtain ⟨lv0, elv0⟩ : ∃ m, voted.length = m := ⟨_, rfl⟩
  obtain ⟨lp0, elp0⟩ : ∃ m, pr.length = m := ⟨_, rfl⟩
  obtain ⟨lo0, elo0⟩ : ∃ m, vo.length = m := ⟨_, rfl⟩
  obtain ⟨lr0, elr0⟩ : ∃ m, re.length = m := ⟨_, rfl⟩
  obtain ⟨ld0, eld0⟩ : ∃ m, ds.length = m := ⟨_, rfl⟩
  obtain ⟨lh0, elh0⟩ : ∃ m, hs.length = m := ⟨_, rfl⟩
  simp only [elv0, elp0, elo0, elr0, eld0, elh0]
  clear elv0 elp0 elo0 elr0 eld0 elh0 rv rp ro rr rd rh fv fp fo fr fd fh
  have ka := Blk.new w 40 #[.int .i64 n, .int .i64 id, .int .i64 own, .int .i64 view, .int .i64 left, .slice Av lv0 cv, .int .i64 lv, .int .i64 lx, .int .i64 dn, .slice Ap lp0 cp, .slice Ao lo0 co, .slice Ar lr0 cr, .slice Ad ld0 cd, .slice Ah lh0 ch]
  have C0 := fun x => lat_blk ka x
  have HB := Lib.hid (fun (x : Lat (w.alloc (.cells #[.int .i64 n, .int .i64 id, .int .i64 own, .int .i64 view, .int .i64 left, .slice Av lv0 cv, .int .i64 lv, .int .i64 lx, .int .i64 dn, .slice Ap lp0 cp, .slice Ao lo0 co, .slice Ar lr0 cr, .slice Ad ld0 cd, .slice Ah lh0 ch] 40))) => on_ (up_ (Below.refl w.heap.size w) _) x.below)
  go_enter Try.func36, Try.ntmps36
  go_wp2
  refine wp_region_lat (by kernel_rfl) (by kernel_rfl) ?_
  repeat (go_big_quiet_step ((first | (go_at_call 70; exact lat_same _ (specSize_is n true HS.out _)) | (go_at_call 71; exact lat_same _ (specVal_is own false H3.out _)))))
  refine wpQuiet_nil ?_
  rintro w3 ⟨⟨_, hb3⟩, rfl⟩
  have hB3 := HB.out ⟨_, hb3⟩
  clear C0 ka
  go_wp2
  go_ret
  exact ⟨rfl, hB3⟩

set_option maxHeartbeats 3200000 in
theorem specRepOk_f4 (q : Rq) (w : World) (hr : RdQ w w.heap.size q) (hf : FewQ q) (hs : sizeB q.n = true) (h1 : decide (0 ≤ q.id) = true) (h2 : decide (q.id < q.n) = true) (h3 : valOkB q.own = true) (h4 : viewOkB q.view = false) :
    Calls Try.prog 36 #[q.agg] w fun e w' => e = .returned (.bool false) ∧ Below w.heap.size w w' := by
  obtain ⟨n, id, own, view, left, voted, lv, lx, dn, pr, vo, re, ds, hs, Av, Ap, Ao, Ar, Ad, Ah, cv, cp, co, cr, cd, ch⟩ := q
  obtain ⟨rv, rp, ro, rr, rd, rh⟩ := hr
  obtain ⟨fv, fp, fo, fr, fd, fh⟩ := hf
  simp only [Rq.agg, Rq.cells] at *
  have HS := Lib.hid hs; clear hs
  have d1 : decide (id < 0) = false := by simp at h1 ⊢; omega
  have d2 : decide (n ≤ id) = false := by simp at h2 ⊢; omega
  have H3 := Lib.hid h3; clear h3
  have H4 := Lib.hid h4; clear h4
  have g1 : 0 ≤ id := by simpa using h1
  have g2 : id < n := by simpa using h2
  have E1 := Lib.hid h1; clear h1
  have E2 := Lib.hid h2; clear h2
  obtain ⟨lv0, elv0⟩ : ∃ m, voted.length = m := ⟨_, rfl⟩
  obtain ⟨lp0, elp0⟩ : ∃ m, pr.length = m := ⟨_, rfl⟩
  obtain ⟨lo0, elo0⟩ : ∃ m, vo.length = m := ⟨_, rfl⟩
  obtain ⟨lr0, elr0⟩ : ∃ m, re.length = m := ⟨_, rfl⟩
  obtain ⟨ld0, eld0⟩ : ∃ m, ds.length = m := ⟨_, rfl⟩
  obtain ⟨lh0, elh0⟩ : ∃ m, hs.length = m := ⟨_, rfl⟩
  simp only [elv0, elp0, elo0, elr0, eld0, elh0]
  clear elv0 elp0 elo0 elr0 eld0 elh0 rv rp ro rr rd rh fv fp fo fr fd fh
  have ka := Blk.new w 40 #[.int .i64 n, .int .i64 id, .int .i64 own, .int .i64 view, .int .i64 left, .slice Av lv0 cv, .int .i64 lv, .int .i64 lx, .int .i64 dn, .slice Ap lp0 cp, .slice Ao lo0 co, .slice Ar lr0 cr, .slice Ad ld0 cd, .slice Ah lh0 ch]
  have C0 := fun x => lat_blk ka x
  have HB := Lib.hid (fun (x : Lat (w.alloc (.cells #[.int .i64 n, .int .i64 id, .int .i64 own, .int .i64 view, .int .i64 left, .slice Av lv0 cv, .int .i64 lv, .int .i64 lx, .int .i64 dn, .slice Ap lp0 cp, .slice Ao lo0 co, .slice Ar lr0 cr, .slice Ad ld0 cd, .slice Ah lh0 ch] 40))) => on_ (up_ (Below.refl w.heap.size w) _) x.below)
  go_enter Try.func36, Try.ntmps36
  go_wp2
  refine wp_region_lat (by kernel_rfl) (by kernel_rfl) ?_
  repeat (go_big_quiet_step ((first | (go_at_call 70; exact lat_same _ (specSize_is n true HS.out _)) | (go_at_call 71; exact lat_same _ (specVal_is own true H3.out _)) | (go_at_call 72; exact lat_same _ (specView_is view false H4.out _)))))
  refine wpQuiet_nil ?_
  rintro w3 ⟨⟨_, hb3⟩, rfl⟩
  have hB3 := HB.out ⟨_, hb3⟩
  clear C0 ka
  go_wp2
  go_ret
  exact ⟨rfl, hB3⟩

set_option maxHeartbeats 3200000 in
theorem specRepOk_f5 (q : Rq) (w : World) (hr : RdQ w w.heap.size q) (hf : FewQ q) (hs : sizeB q.n = true) (h1 : decide (0 ≤ q.id) = true) (h2 : decide (q.id < q.n) = true) (h3 : valOkB q.own = true) (h4 : viewOkB q.view = true) (h5 : decide (1 ≤ q.left) = false) :
    Calls Try.prog 36 #[q.agg] w fun e w' => e = .returned (.bool false) ∧ Below w.heap.size w w' := by
  obtain ⟨n, id, own, view, left, voted, lv, lx, dn, pr, vo, re, ds, hs, Av, Ap, Ao, Ar, Ad, Ah, cv, cp, co, cr, cd, ch⟩ := q
  obtain ⟨rv, rp, ro, rr, rd, rh⟩ := hr
  obtain ⟨fv, fp, fo, fr, fd, fh⟩ := hf
  simp only [Rq.agg, Rq.cells] at *
  have hb : 0 ≤ view ∧ view ≤ 9 := by simpa [viewOkB] using h4
  obtain ⟨hv0, hv9⟩ := hb
  obtain ⟨y, hy⟩ : ∃ y, 3 + view = y := ⟨_, rfl⟩
  obtain ⟨u, hu⟩ : ∃ u, view + 1 = u := ⟨_, rfl⟩
  have hw : IntKind.i64.wrap (view + 1) = u := by rw [← hu]; exact IntWalk.i64_in _ (by omega)
  have hyb : 3 ≤ y ∧ y ≤ 12 := by omega
  obtain ⟨hyb1, hyb2⟩ := hyb
  have HY := Lib.hid hy; have HU := Lib.hid hu; clear hy hu
  have HS := Lib.hid hs; clear hs
  have d1 : decide (id < 0) = false := by simp at h1 ⊢; omega
  have d2 : decide (n ≤ id) = false := by simp at h2 ⊢; omega
  have H3 := Lib.hid h3; clear h3
  have H4 := Lib.hid h4; clear h4
  have d3 : decide (left < 1) = true := by simp at h5 ⊢; omega
  have g1 : 0 ≤ id := by simpa using h1
  have g2 : id < n := by simpa using h2
  have E1 := Lib.hid h1; clear h1
  have E2 := Lib.hid h2; clear h2
  have E5 := Lib.hid h5; clear h5
  obtain ⟨lv0, elv0⟩ : ∃ m, voted.length = m := ⟨_, rfl⟩
  obtain ⟨lp0, elp0⟩ : ∃ m, pr.length = m := ⟨_, rfl⟩
  obtain ⟨lo0, elo0⟩ : ∃ m, vo.length = m := ⟨_, rfl⟩
  obtain ⟨lr0, elr0⟩ : ∃ m, re.length = m := ⟨_, rfl⟩
  obtain ⟨ld0, eld0⟩ : ∃ m, ds.length = m := ⟨_, rfl⟩
  obtain ⟨lh0, elh0⟩ : ∃ m, hs.length = m := ⟨_, rfl⟩
  simp only [elv0, elp0, elo0, elr0, eld0, elh0]
  clear elv0 elp0 elo0 elr0 eld0 elh0 rv rp ro rr rd rh fv fp fo fr fd fh
  have ka := Blk.new w 40 #[.int .i64 n, .int .i64 id, .int .i64 own, .int .i64 view, .int .i64 left, .slice Av lv0 cv, .int .i64 lv, .int .i64 lx, .int .i64 dn, .slice Ap lp0 cp, .slice Ao lo0 co, .slice Ar lr0 cr, .slice Ad ld0 cd, .slice Ah lh0 ch]
  have C0 := fun x => lat_blk ka x
  have HB := Lib.hid (fun (x : Lat (w.alloc (.cells #[.int .i64 n, .int .i64 id, .int .i64 own, .int .i64 view, .int .i64 left, .slice Av lv0 cv, .int .i64 lv, .int .i64 lx, .int .i64 dn, .slice Ap lp0 cp, .slice Ao lo0 co, .slice Ar lr0 cr, .slice Ad ld0 cd, .slice Ah lh0 ch] 40))) => on_ (up_ (Below.refl w.heap.size w) _) x.below)
  go_enter Try.func36, Try.ntmps36
  go_wp2
  refine wp_region_lat (by kernel_rfl) (by kernel_rfl) ?_
  repeat (go_big_quiet_step ((first | (go_at_call 70; exact lat_same _ (specSize_is n true HS.out _)) | (go_at_call 71; exact lat_same _ (specVal_is own true H3.out _)) | (go_at_call 72; exact lat_same _ (specView_is view true H4.out _)))))
  refine wpQuiet_nil ?_
  rintro w3 ⟨⟨_, hb3⟩, rfl⟩
  have hB3 := HB.out ⟨_, hb3⟩
  clear C0 ka
  go_wp2
  go_ret
  exact ⟨rfl, hB3⟩

set_option maxHeartbeats 3200000 in
theorem specRepOk_f6 (q : Rq) (w : World) (hr : RdQ w w.heap.size q) (hf : FewQ q) (hs : sizeB q.n = true) (h1 : decide (0 ≤ q.id) = true) (h2 : decide (q.id < q.n) = true) (h3 : valOkB q.own = true) (h4 : viewOkB q.view = true) (h5 : decide (1 ≤ q.left) = true) (h6 : decide (q.left ≤ 3 + q.view) = false) :
    Calls Try.prog 36 #[q.agg] w fun e w' => e = .returned (.bool false) ∧ Below w.heap.size w w' := by
  obtain ⟨n, id, own, view, left, voted, lv, lx, dn, pr, vo, re, ds, hs, Av, Ap, Ao, Ar, Ad, Ah, cv, cp, co, cr, cd, ch⟩ := q
  obtain ⟨rv, rp, ro, rr, rd, rh⟩ := hr
  obtain ⟨fv, fp, fo, fr, fd, fh⟩ := hf
  simp only [Rq.agg, Rq.cells] at *
  have hb : 0 ≤ view ∧ view ≤ 9 := by simpa [viewOkB] using h4
  obtain ⟨hv0, hv9⟩ := hb
  obtain ⟨y, hy⟩ : ∃ y, 3 + view = y := ⟨_, rfl⟩
  obtain ⟨u, hu⟩ : ∃ u, view + 1 = u := ⟨_, rfl⟩
  have hw : IntKind.i64.wrap (view + 1) = u := by rw [← hu]; exact IntWalk.i64_in _ (by omega)
  have hyb : 3 ≤ y ∧ y ≤ 12 := by omega
  obtain ⟨hyb1, hyb2⟩ := hyb
  rw [hy] at h6
  have HY := Lib.hid hy; have HU := Lib.hid hu; clear hy hu
  have HS := Lib.hid hs; clear hs
  have d1 : decide (id < 0) = false := by simp at h1 ⊢; omega
  have d2 : decide (n ≤ id) = false := by simp at h2 ⊢; omega
  have H3 := Lib.hid h3; clear h3
  have H4 := Lib.hid h4; clear h4
  have d3 : decide (left < 1) = false := by simp at h5 ⊢; omega
  have d4 : decide (y < left) = true := by simp at h6 ⊢; omega
  have g1 : 0 ≤ id := by simpa using h1
  have g2 : id < n := by simpa using h2
  have E1 := Lib.hid h1; clear h1
  have E2 := Lib.hid h2; clear h2
  have E5 := Lib.hid h5; clear h5
  have E6 := Lib.hid h6; clear h6
  obtain ⟨lv0, elv0⟩ : ∃ m, voted.length = m := ⟨_, rfl⟩
  obtain ⟨lp0, elp0⟩ : ∃ m, pr.length = m := ⟨_, rfl⟩
  obtain ⟨lo0, elo0⟩ : ∃ m, vo.length = m := ⟨_, rfl⟩
  obtain ⟨lr0, elr0⟩ : ∃ m, re.length = m := ⟨_, rfl⟩
  obtain ⟨ld0, eld0⟩ : ∃ m, ds.length = m := ⟨_, rfl⟩
  obtain ⟨lh0, elh0⟩ : ∃ m, hs.length = m := ⟨_, rfl⟩
  simp only [elv0, elp0, elo0, elr0, eld0, elh0]
  clear elv0 elp0 elo0 elr0 eld0 elh0 rv rp ro rr rd rh fv fp fo fr fd fh
  have ka := Blk.new w 40 #[.int .i64 n, .int .i64 id, .int .i64 own, .int .i64 view, .int .i64 left, .slice Av lv0 cv, .int .i64 lv, .int .i64 lx, .int .i64 dn, .slice Ap lp0 cp, .slice Ao lo0 co, .slice Ar lr0 cr, .slice Ad ld0 cd, .slice Ah lh0 ch]
  have C0 := fun x => lat_blk ka x
  have HB := Lib.hid (fun (x : Lat (w.alloc (.cells #[.int .i64 n, .int .i64 id, .int .i64 own, .int .i64 view, .int .i64 left, .slice Av lv0 cv, .int .i64 lv, .int .i64 lx, .int .i64 dn, .slice Ap lp0 cp, .slice Ao lo0 co, .slice Ar lr0 cr, .slice Ad ld0 cd, .slice Ah lh0 ch] 40))) => on_ (up_ (Below.refl w.heap.size w) _) x.below)
  go_enter Try.func36, Try.ntmps36
  go_wp2
  refine wp_region_lat (by kernel_rfl) (by kernel_rfl) ?_
  repeat (go_big_quiet_step ((first | (go_at_call 70; exact lat_same _ (specSize_is n true HS.out _)) | (go_at_call 71; exact lat_same _ (specVal_is own true H3.out _)) | (go_at_call 72; exact lat_same _ (specView_is view true H4.out _)) | (go_at_call 73; exact lat_same _ (wait_is view y H4.out HY.out _)))))
  refine wpQuiet_nil ?_
  rintro w3 ⟨⟨_, hb3⟩, rfl⟩
  have hB3 := HB.out ⟨_, hb3⟩
  clear C0 ka
  go_wp2
  go_ret
  exact ⟨rfl, hB3⟩

set_option maxHeartbeats 3200000 in
theorem specRepOk_f7 (q : Rq) (w : World) (hr : RdQ w w.heap.size q) (hf : FewQ q) (hs : sizeB q.n = true) (h1 : decide (0 ≤ q.id) = true) (h2 : decide (q.id < q.n) = true) (h3 : valOkB q.own = true) (h4 : viewOkB q.view = true) (h5 : decide (1 ≤ q.left) = true) (h6 : decide (q.left ≤ 3 + q.view) = true) (h7 : votesOkB q.voted (q.view + 1) = false) :
    Calls Try.prog 36 #[q.agg] w fun e w' => e = .returned (.bool false) ∧ Below w.heap.size w w' := by
  obtain ⟨n, id, own, view, left, voted, lv, lx, dn, pr, vo, re, ds, hs, Av, Ap, Ao, Ar, Ad, Ah, cv, cp, co, cr, cd, ch⟩ := q
  obtain ⟨rv, rp, ro, rr, rd, rh⟩ := hr
  obtain ⟨fv, fp, fo, fr, fd, fh⟩ := hf
  simp only [Rq.agg, Rq.cells] at *
  have hb : 0 ≤ view ∧ view ≤ 9 := by simpa [viewOkB] using h4
  obtain ⟨hv0, hv9⟩ := hb
  obtain ⟨y, hy⟩ : ∃ y, 3 + view = y := ⟨_, rfl⟩
  obtain ⟨u, hu⟩ : ∃ u, view + 1 = u := ⟨_, rfl⟩
  have hw : IntKind.i64.wrap (view + 1) = u := by rw [← hu]; exact IntWalk.i64_in _ (by omega)
  have hyb : 3 ≤ y ∧ y ≤ 12 := by omega
  obtain ⟨hyb1, hyb2⟩ := hyb
  rw [hy] at h6
  rw [hu] at h7
  have HY := Lib.hid hy; have HU := Lib.hid hu; clear hy hu
  have HS := Lib.hid hs; clear hs
  have d1 : decide (id < 0) = false := by simp at h1 ⊢; omega
  have d2 : decide (n ≤ id) = false := by simp at h2 ⊢; omega
  have H3 := Lib.hid h3; clear h3
  have H4 := Lib.hid h4; clear h4
  have d3 : decide (left < 1) = false := by simp at h5 ⊢; omega
  have d4 : decide (y < left) = false := by simp at h6 ⊢; omega
  have H7 := Lib.hid h7; clear h7
  have HV := Lib.hid (fun (W : World) (h : Below w.heap.size w W) => specVotesOk_is false Av cv voted u H7.out W ((rv.below h).more h.size) fv)
  have g1 : 0 ≤ id := by simpa using h1
  have g2 : id < n := by simpa using h2
  have E1 := Lib.hid h1; clear h1
  have E2 := Lib.hid h2; clear h2
  have E5 := Lib.hid h5; clear h5
  have E6 := Lib.hid h6; clear h6
  obtain ⟨lv0, elv0⟩ : ∃ m, voted.length = m := ⟨_, rfl⟩
  obtain ⟨lp0, elp0⟩ : ∃ m, pr.length = m := ⟨_, rfl⟩
  obtain ⟨lo0, elo0⟩ : ∃ m, vo.length = m := ⟨_, rfl⟩
  obtain ⟨lr0, elr0⟩ : ∃ m, re.length = m := ⟨_, rfl⟩
  obtain ⟨ld0, eld0⟩ : ∃ m, ds.length = m := ⟨_, rfl⟩
  obtain ⟨lh0, elh0⟩ : ∃ m, hs.length = m := ⟨_, rfl⟩
  simp only [elv0, elp0, elo0, elr0, eld0, elh0] at HV ⊢
  clear elv0 elp0 elo0 elr0 eld0 elh0 rv rp ro rr rd rh fv fp fo fr fd fh
  have ka := Blk.new w 40 #[.int .i64 n, .int .i64 id, .int .i64 own, .int .i64 view, .int .i64 left, .slice Av lv0 cv, .int .i64 lv, .int .i64 lx, .int .i64 dn, .slice Ap lp0 cp, .slice Ao lo0 co, .slice Ar lr0 cr, .slice Ad ld0 cd, .slice Ah lh0 ch]
  have C0 := fun x => lat_blk ka x
  have HB := Lib.hid (fun (x : Lat (w.alloc (.cells #[.int .i64 n, .int .i64 id, .int .i64 own, .int .i64 view, .int .i64 left, .slice Av lv0 cv, .int .i64 lv, .int .i64 lx, .int .i64 dn, .slice Ap lp0 cp, .slice Ao lo0 co, .slice Ar lr0 cr, .slice Ad ld0 cd, .slice Ah lh0 ch] 40))) => on_ (up_ (Below.refl w.heap.size w) _) x.below)
  go_enter Try.func36, Try.ntmps36
  go_wp2
  refine wp_region_lat (by kernel_rfl) (by kernel_rfl) ?_
  repeat (go_big_quiet_step ((first | (go_at_call 70; exact lat_same _ (specSize_is n true HS.out _)) | (go_at_call 71; exact lat_same _ (specVal_is own true H3.out _)) | (go_at_call 72; exact lat_same _ (specView_is view true H4.out _)) | (go_at_call 73; exact lat_same _ (wait_is view y H4.out HY.out _)) | (go_at_call 74; exact lat_call _ (HV.out _ (HB.out _))))))
  refine wpQuiet_nil ?_
  rintro w3 ⟨⟨_, hb3⟩, rfl⟩
  have hB3 := HB.out ⟨_, hb3⟩
  clear C0 ka
  go_wp2
  go_ret
  exact ⟨rfl, hB3⟩

set_option maxHeartbeats 3200000 in
theorem specRepOk_f8 (q : Rq) (w : World) (hr : RdQ w w.heap.size q) (hf : FewQ q) (hs : sizeB q.n = true) (h1 : decide (0 ≤ q.id) = true) (h2 : decide (q.id < q.n) = true) (h3 : valOkB q.own = true) (h4 : viewOkB q.view = true) (h5 : decide (1 ≤ q.left) = true) (h6 : decide (q.left ≤ 3 + q.view) = true) (h7 : votesOkB q.voted (q.view + 1) = true) (h8 : decide (0 ≤ q.dn) = false) :
    Calls Try.prog 36 #[q.agg] w fun e w' => e = .returned (.bool false) ∧ Below w.heap.size w w' := by
  obtain ⟨n, id, own, view, left, voted, lv, lx, dn, pr, vo, re, ds, hs, Av, Ap, Ao, Ar, Ad, Ah, cv, cp, co, cr, cd, ch⟩ := q
  obtain ⟨rv, rp, ro, rr, rd, rh⟩ := hr
  obtain ⟨fv, fp, fo, fr, fd, fh⟩ := hf
  simp only [Rq.agg, Rq.cells] at *
  have hb : 0 ≤ view ∧ view ≤ 9 := by simpa [viewOkB] using h4
  obtain ⟨hv0, hv9⟩ := hb
  obtain ⟨y, hy⟩ : ∃ y, 3 + view = y := ⟨_, rfl⟩
  obtain ⟨u, hu⟩ : ∃ u, view + 1 = u := ⟨_, rfl⟩
  have hw : IntKind.i64.wrap (view + 1) = u := by rw [← hu]; exact IntWalk.i64_in _ (by omega)
  have hyb : 3 ≤ y ∧ y ≤ 12 := by omega
  obtain ⟨hyb1, hyb2⟩ := hyb
  rw [hy] at h6
  rw [hu] at h7
  have HY := Lib.hid hy; have HU := Lib.hid hu; clear hy hu
  have HS := Lib.hid hs; clear hs
  have d1 : decide (id < 0) = false := by simp at h1 ⊢; omega
  have d2 : decide (n ≤ id) = false := by simp at h2 ⊢; omega
  have H3 := Lib.hid h3; clear h3
  have H4 := Lib.hid h4; clear h4
  have d3 : decide (left < 1) = false := by simp at h5 ⊢; omega
  have d4 : decide (y < left) = false := by simp at h6 ⊢; omega
  have H7 := Lib.hid h7; clear h7
  have HV := Lib.hid (fun (W : World) (h : Below w.heap.size w W) => specVotesOk_is true Av cv voted u H7.out W ((rv.below h).more h.size) fv)
  have d5 : decide (dn < 0) = true := by simp at h8 ⊢; omega
  have g1 : 0 ≤ id := by simpa using h1
  have g2 : id < n := by simpa using h2
  have E1 := Lib.hid h1; clear h1
  have E2 := Lib.hid h2; clear h2
  have E5 := Lib.hid h5; clear h5
  have E6 := Lib.hid h6; clear h6
  have E8 := Lib.hid h8; clear h8
  obtain ⟨lv0, elv0⟩ : ∃ m, voted.length = m := ⟨_, rfl⟩
  obtain ⟨lp0, elp0⟩ : ∃ m, pr.length = m := ⟨_, rfl⟩
  obtain ⟨lo0, elo0⟩ : ∃ m, vo.length = m := ⟨_, rfl⟩
  obtain ⟨lr0, elr0⟩ : ∃ m, re.length = m := ⟨_, rfl⟩
  obtain ⟨ld0, eld0⟩ : ∃ m, ds.length = m := ⟨_, rfl⟩
  obtain ⟨lh0, elh0⟩ : ∃ m, hs.length = m := ⟨_, rfl⟩
  simp only [elv0, elp0, elo0, elr0, eld0, elh0] at HV ⊢
  clear elv0 elp0 elo0 elr0 eld0 elh0 rv rp ro rr rd rh fv fp fo fr fd fh
  have ka := Blk.new w 40 #[.int .i64 n, .int .i64 id, .int .i64 own, .int .i64 view, .int .i64 left, .slice Av lv0 cv, .int .i64 lv, .int .i64 lx, .int .i64 dn, .slice Ap lp0 cp, .slice Ao lo0 co, .slice Ar lr0 cr, .slice Ad ld0 cd, .slice Ah lh0 ch]
  have C0 := fun x => lat_blk ka x
  have HB := Lib.hid (fun (x : Lat (w.alloc (.cells #[.int .i64 n, .int .i64 id, .int .i64 own, .int .i64 view, .int .i64 left, .slice Av lv0 cv, .int .i64 lv, .int .i64 lx, .int .i64 dn, .slice Ap lp0 cp, .slice Ao lo0 co, .slice Ar lr0 cr, .slice Ad ld0 cd, .slice Ah lh0 ch] 40))) => on_ (up_ (Below.refl w.heap.size w) _) x.below)
  go_enter Try.func36, Try.ntmps36
  go_wp2
  refine wp_region_lat (by kernel_rfl) (by kernel_rfl) ?_
  repeat (go_big_quiet_step ((first | (go_at_call 70; exact lat_same _ (specSize_is n true HS.out _)) | (go_at_call 71; exact lat_same _ (specVal_is own true H3.out _)) | (go_at_call 72; exact lat_same _ (specView_is view true H4.out _)) | (go_at_call 73; exact lat_same _ (wait_is view y H4.out HY.out _)) | (go_at_call 74; exact lat_call _ (HV.out _ (HB.out _))))))
  refine wpQuiet_nil ?_
  rintro w3 ⟨⟨_, hb3⟩, rfl⟩
  have hB3 := HB.out ⟨_, hb3⟩
  clear C0 ka
  go_wp2
  go_ret
  exact ⟨rfl, hB3⟩

set_option maxHeartbeats 3200000 in
theorem specRepOk_f9 (q : Rq) (w : World) (hr : RdQ w w.heap.size q) (hf : FewQ q) (hs : sizeB q.n = true) (h1 : decide (0 ≤ q.id) = true) (h2 : decide (q.id < q.n) = true) (h3 : valOkB q.own = true) (h4 : viewOkB q.view = true) (h5 : decide (1 ≤ q.left) = true) (h6 : decide (q.left ≤ 3 + q.view) = true) (h7 : votesOkB q.voted (q.view + 1) = true) (h8 : decide (0 ≤ q.dn) = true) (h9 : decide (q.dn ≤ 60) = false) :
    Calls Try.prog 36 #[q.agg] w fun e w' => e = .returned (.bool false) ∧ Below w.heap.size w w' := by
  obtain ⟨n, id, own, view, left, voted, lv, lx, dn, pr, vo, re, ds, hs, Av, Ap, Ao, Ar, Ad, Ah, cv, cp, co, cr, cd, ch⟩ := q
  obtain ⟨rv, rp, ro, rr, rd, rh⟩ := hr
  obtain ⟨fv, fp, fo, fr, fd, fh⟩ := hf
  simp only [Rq.agg, Rq.cells] at *
  have hb : 0 ≤ view ∧ view ≤ 9 := by simpa [viewOkB] using h4
  obtain ⟨hv0, hv9⟩ := hb
  obtain ⟨y, hy⟩ : ∃ y, 3 + view = y := ⟨_, rfl⟩
  obtain ⟨u, hu⟩ : ∃ u, view + 1 = u := ⟨_, rfl⟩
  have hw : IntKind.i64.wrap (view + 1) = u := by rw [← hu]; exact IntWalk.i64_in _ (by omega)
  have hyb : 3 ≤ y ∧ y ≤ 12 := by omega
  obtain ⟨hyb1, hyb2⟩ := hyb
  rw [hy] at h6
  rw [hu] at h7
  have HY := Lib.hid hy; have HU := Lib.hid hu; clear hy hu
  have HS := Lib.hid hs; clear hs
  have d1 : decide (id < 0) = false := by simp at h1 ⊢; omega
  have d2 : decide (n ≤ id) = false := by simp at h2 ⊢; omega
  have H3 := Lib.hid h3; clear h3
  have H4 := Lib.hid h4; clear h4
  have d3 : decide (left < 1) = false := by simp at h5 ⊢; omega
  have d4 : decide (y < left) = false := by simp at h6 ⊢; omega
  have H7 := Lib.hid h7; clear h7
  have HV := Lib.hid (fun (W : World) (h : Below w.heap.size w W) => specVotesOk_is true Av cv voted u H7.out W ((rv.below h).more h.size) fv)
  have d5 : decide (dn < 0) = false := by simp at h8 ⊢; omega
  have d6 : decide (60 < dn) = true := by simp at h9 ⊢; omega
  have g1 : 0 ≤ id := by simpa using h1
  have g2 : id < n := by simpa using h2
  have E1 := Lib.hid h1; clear h1
  have E2 := Lib.hid h2; clear h2
  have E5 := Lib.hid h5; clear h5
  have E6 := Lib.hid h6; clear h6
  have E8 := Lib.hid h8; clear h8
  have E9 := Lib.hid h9; clear h9
  obtain ⟨lv0, elv0⟩ : ∃ m, voted.length = m := ⟨_, rfl⟩
  obtain ⟨lp0, elp0⟩ : ∃ m, pr.length = m := ⟨_, rfl⟩
  obtain ⟨lo0, elo0⟩ : ∃ m, vo.length = m := ⟨_, rfl⟩
  obtain ⟨lr0, elr0⟩ : ∃ m, re.length = m := ⟨_, rfl⟩
  obtain ⟨ld0, eld0⟩ : ∃ m, ds.length = m := ⟨_, rfl⟩
  obtain ⟨lh0, elh0⟩ : ∃ m, hs.length = m := ⟨_, rfl⟩
  simp only [elv0, elp0, elo0, elr0, eld0, elh0] at HV ⊢
  clear elv0 elp0 elo0 elr0 eld0 elh0 rv rp ro rr rd rh fv fp fo fr fd fh
  have ka := Blk.new w 40 #[.int .i64 n, .int .i64 id, .int .i64 own, .int .i64 view, .int .i64 left, .slice Av lv0 cv, .int .i64 lv, .int .i64 lx, .int .i64 dn, .slice Ap lp0 cp, .slice Ao lo0 co, .slice Ar lr0 cr, .slice Ad ld0 cd, .slice Ah lh0 ch]
  have C0 := fun x => lat_blk ka x
  have HB := Lib.hid (fun (x : Lat (w.alloc (.cells #[.int .i64 n, .int .i64 id, .int .i64 own, .int .i64 view, .int .i64 left, .slice Av lv0 cv, .int .i64 lv, .int .i64 lx, .int .i64 dn, .slice Ap lp0 cp, .slice Ao lo0 co, .slice Ar lr0 cr, .slice Ad ld0 cd, .slice Ah lh0 ch] 40))) => on_ (up_ (Below.refl w.heap.size w) _) x.below)
  go_enter Try.func36, Try.ntmps36
  go_wp2
  refine wp_region_lat (by kernel_rfl) (by kernel_rfl) ?_
  repeat (go_big_quiet_step ((first | (go_at_call 70; exact lat_same _ (specSize_is n true HS.out _)) | (go_at_call 71; exact lat_same _ (specVal_is own true H3.out _)) | (go_at_call 72; exact lat_same _ (specView_is view true H4.out _)) | (go_at_call 73; exact lat_same _ (wait_is view y H4.out HY.out _)) | (go_at_call 74; exact lat_call _ (HV.out _ (HB.out _))))))
  refine wpQuiet_nil ?_
  rintro w3 ⟨⟨_, hb3⟩, rfl⟩
  have hB3 := HB.out ⟨_, hb3⟩
  clear C0 ka
  go_wp2
  go_ret
  exact ⟨rfl, hB3⟩

end Go.Proofs.Ytfdfjmibjnmhpaa.V

namespace Go.Proofs.Ytfdfjmibjnmhpaa.V
open Go.RowKit Go.Proofs.Ytfdfjmibjnmhpaa.B

set_option maxHeartbeats 12800000 in
theorem specRepOk_rest (z : Bool) (q : Rq) (w : World) (hr : RdQ w w.heap.size q) (hf : FewQ q) (hs : sizeB q.n = true) (h1 : decide (0 ≤ q.id) = true) (h2 : decide (q.id < q.n) = true) (h3 : valOkB q.own = true) (h4 : viewOkB q.view = true) (h5 : decide (1 ≤ q.left) = true) (h6 : decide (q.left ≤ 3 + q.view) = true) (h7 : votesOkB q.voted (q.view + 1) = true) (h8 : decide (0 ≤ q.dn) = true) (h9 : decide (q.dn ≤ 60) = true) (hz : (lockOkB q.lv q.lx (q.view + 1) && (talsQ q.dat && heardB q.n (hl q.hs))) = z) :
    Calls Try.prog 36 #[q.agg] w fun e w' => e = .returned (.bool z) ∧ Below w.heap.size w w' := by
  obtain ⟨tp, htp⟩ : ∃ t, talB q.n q.pr = t := ⟨_, rfl⟩
  obtain ⟨to, hto⟩ : ∃ t, talB q.n q.vo = t := ⟨_, rfl⟩
  obtain ⟨tr, htr⟩ : ∃ t, talB q.n q.re = t := ⟨_, rfl⟩
  obtain ⟨td, htd⟩ : ∃ t, talB q.n q.ds = t := ⟨_, rfl⟩
  obtain ⟨tl, htl⟩ : ∃ t, lockOkB q.lv q.lx (q.view + 1) = t := ⟨_, rfl⟩
  have hT : talsQ q.dat = (tp && (to && (tr && td)) && q.ds.all zero4) := by rw [← htp, ← hto, ← htr, ← htd]; rfl
  rw [htl] at hz
  obtain ⟨n, id, own, view, left, voted, lv, lx, dn, pr, vo, re, ds, hs, Av, Ap, Ao, Ar, Ad, Ah, cv, cp, co, cr, cd, ch⟩ := q
  obtain ⟨rv, rp, ro, rr, rd, rh⟩ := hr
  obtain ⟨fv, fp, fo, fr, fd, fh⟩ := hf
  simp only [Rq.agg, Rq.cells] at *
  have hb : 0 ≤ view ∧ view ≤ 9 := by simpa [viewOkB] using h4
  obtain ⟨hv0, hv9⟩ := hb
  obtain ⟨y, hy⟩ : ∃ y, 3 + view = y := ⟨_, rfl⟩
  obtain ⟨u, hu⟩ : ∃ u, view + 1 = u := ⟨_, rfl⟩
  have hw : IntKind.i64.wrap (view + 1) = u := by rw [← hu]; exact IntWalk.i64_in _ (by omega)
  have hyb : 3 ≤ y ∧ y ≤ 12 := by omega
  obtain ⟨hyb1, hyb2⟩ := hyb
  rw [hy] at h6
  rw [hu] at h7
  have HY := Lib.hid hy; have HU := Lib.hid hu; clear hy hu
  have HS := Lib.hid hs; clear hs
  have d1 : decide (id < 0) = false := by simp at h1 ⊢; omega
  have d2 : decide (n ≤ id) = false := by simp at h2 ⊢; omega
  have H3 := Lib.hid h3; clear h3
  have H4 := Lib.hid h4; clear h4
  have d3 : decide (left < 1) = false := by simp at h5 ⊢; omega
  have d4 : decide (y < left) = false := by simp at h6 ⊢; omega
  have H7 := Lib.hid h7; clear h7
  have HV := Lib.hid (fun (W : World) (h : Below w.heap.size w W) => specVotesOk_is true Av cv voted u H7.out W ((rv.below h).more h.size) fv)
  have d5 : decide (dn < 0) = false := by simp at h8 ⊢; omega
  have d6 : decide (60 < dn) = false := by simp at h9 ⊢; omega
  have g1 : 0 ≤ id := by simpa using h1
  have g2 : id < n := by simpa using h2
  have E1 := Lib.hid h1; clear h1
  have E2 := Lib.hid h2; clear h2
  have E5 := Lib.hid h5; clear h5
  have E6 := Lib.hid h6; clear h6
  have E8 := Lib.hid h8; clear h8
  have E9 := Lib.hid h9; clear h9
  have RDD := Lib.hid rd; have RHH := Lib.hid rh; have FHH := Lib.hid fh
  have HZ := Lib.hid hz; have HT := Lib.hid hT; have HTL := Lib.hid htl; clear hz hT htl
  have HP := Lib.hid (fun (W : World) (h : Below w.heap.size w W) => l4tally_is tp n Ap cp pr htp W ((rp.below h).more h.size) fp); clear htp
  have HO := Lib.hid (fun (W : World) (h : Below w.heap.size w W) => l4tally_is to n Ao co vo hto W ((ro.below h).more h.size) fo); clear hto
  have HR := Lib.hid (fun (W : World) (h : Below w.heap.size w W) => l4tally_is tr n Ar cr re htr W ((rr.below h).more h.size) fr); clear htr
  have HD := Lib.hid (fun (W : World) (h : Below w.heap.size w W) => l4tally_is td n Ad cd ds htd W ((rd.below h).more h.size) fd); clear htd
  obtain ⟨lv0, elv0⟩ : ∃ m, voted.length = m := ⟨_, rfl⟩
  obtain ⟨lp0, elp0⟩ : ∃ m, pr.length = m := ⟨_, rfl⟩
  obtain ⟨lo0, elo0⟩ : ∃ m, vo.length = m := ⟨_, rfl⟩
  obtain ⟨lr0, elr0⟩ : ∃ m, re.length = m := ⟨_, rfl⟩
  obtain ⟨ld0, eld0⟩ : ∃ m, ds.length = m := ⟨_, rfl⟩
  obtain ⟨lh0, elh0⟩ : ∃ m, hs.length = m := ⟨_, rfl⟩
  simp only [elv0, elp0, elo0, elr0, eld0, elh0] at HV HP HO HR HD ⊢
  have ELD := Lib.hid eld0; have ELH := Lib.hid elh0
  have bld : ld0 ≤ 1048576 := by rw [← eld0]; exact fd
  have blh : lh0 ≤ 1048576 := by rw [← elh0]; exact fh.1
  clear elv0 elp0 elo0 elr0 eld0 elh0 rv rp ro rr rd rh fv fp fo fr fd fh
  have ka := Blk.new w 40 #[.int .i64 n, .int .i64 id, .int .i64 own, .int .i64 view, .int .i64 left, .slice Av lv0 cv, .int .i64 lv, .int .i64 lx, .int .i64 dn, .slice Ap lp0 cp, .slice Ao lo0 co, .slice Ar lr0 cr, .slice Ad ld0 cd, .slice Ah lh0 ch]
  have C0 := fun x => lat_blk ka x
  have HB := Lib.hid (fun (x : Lat (w.alloc (.cells #[.int .i64 n, .int .i64 id, .int .i64 own, .int .i64 view, .int .i64 left, .slice Av lv0 cv, .int .i64 lv, .int .i64 lx, .int .i64 dn, .slice Ap lp0 cp, .slice Ao lo0 co, .slice Ar lr0 cr, .slice Ad ld0 cd, .slice Ah lh0 ch] 40))) => on_ (up_ (Below.refl w.heap.size w) _) x.below)
  go_enter Try.func36, Try.ntmps36
  go_wp2
  refine wp_region_lat (by kernel_rfl) (by kernel_rfl) ?_
  repeat (go_big_quiet_step ((first | (go_at_call 70; exact lat_same _ (specSize_is n true HS.out _)) | (go_at_call 71; exact lat_same _ (specVal_is own true H3.out _)) | (go_at_call 72; exact lat_same _ (specView_is view true H4.out _)) | (go_at_call 73; exact lat_same _ (wait_is view y H4.out HY.out _)) | (go_at_call 74; exact lat_call _ (HV.out _ (HB.out _))))))
  refine wpQuiet_nil ?_
  rintro w3 ⟨⟨_, hb3⟩, rfl⟩
  have hB : Below w.heap.size w w3 := HB.out ⟨_, hb3⟩
  have ka' := ka.on hb3; clear ka C0; have ka := ka'; clear ka'; have ra := ka.rule
  clear hb3 HB HV
  by_cases hx : lx = 0
  · subst hx
    by_cases hl0 : lv = 0
    · subst hl0
      have htl : tl = true := by rw [← HTL.out]; simp [lockOkB]
      subst htl
      go_wp2_with fail
      refine (HP.out _ hB).mono ?_
      rintro e w1 ⟨rfl, hb⟩
      have ka' := ka.on hb; have hB' := on_ hB hb
      clear ka hB ra hb; have ka := ka'; have hB := hB'; clear ka' hB'; have ra := ka.rule
      rcases tp with _ | _
      · go_wp2
        go_ret
        exact ⟨ret_bool (by rw [← HZ.out, HT.out]; simp), hB⟩
      go_wp2_with fail
      refine (HO.out _ hB).mono ?_
      rintro e w1 ⟨rfl, hb⟩
      have ka' := ka.on hb; have hB' := on_ hB hb
      clear ka hB ra hb; have ka := ka'; have hB := hB'; clear ka' hB'; have ra := ka.rule
      rcases to with _ | _
      · go_wp2
        go_ret
        exact ⟨ret_bool (by rw [← HZ.out, HT.out]; simp), hB⟩
      go_wp2_with fail
      refine (HR.out _ hB).mono ?_
      rintro e w1 ⟨rfl, hb⟩
      have ka' := ka.on hb; have hB' := on_ hB hb
      clear ka hB ra hb; have ka := ka'; have hB := hB'; clear ka' hB'; have ra := ka.rule
      rcases tr with _ | _
      · go_wp2
        go_ret
        exact ⟨ret_bool (by rw [← HZ.out, HT.out]; simp), hB⟩
      go_wp2_with fail
      refine (HD.out _ hB).mono ?_
      rintro e w1 ⟨rfl, hb⟩
      have ka' := ka.on hb; have hB' := on_ hB hb
      clear ka hB ra hb; have ka := ka'; have hB := hB'; clear ka' hB'; have ra := ka.rule
      rcases td with _ | _
      · go_wp2
        go_ret
        exact ⟨ret_bool (by rw [← HZ.out, HT.out]; simp), hB⟩
      go_wp2
      go_loopw [3] (fun i wr => ∃ (k : Nat), k ≤ ld0 ∧ i = .int .i64 k ∧ Hid (∀ j, j < k → zero4 (ds.getD j z3) = true) ∧ Blk wr w.heap.size 40 #[.int .i64 n, .int .i64 id, .int .i64 own, .int .i64 view, .int .i64 left, .slice Av lv0 cv, .int .i64 0, .int .i64 0, .int .i64 dn, .slice Ap lp0 cp, .slice Ao lo0 co, .slice Ar lr0 cr, .slice Ad ld0 cd, .slice Ah lh0 ch] ∧ Below w.heap.size w wr) (fun i _ => ld0 - (intOf i).toNat)
      case atStart => exact ⟨0, Nat.zero_le _, rfl, fun j hj => absurd hj (by omega), ka, hB⟩
      case round =>
        obtain ⟨k, hk, rfl, hall, ka, hB⟩ := hrel
        have ra := ka.rule
        by_cases hlt : k < ld0
        · obtain ⟨b, off, rfl, hb, hc0, hc1, hc2⟩ := Rd3.at_ (RDD.out.below hB) (k := k) (by rw [ELD.out]; omega)
          obtain ⟨⟨ua, ub, uc⟩, hu⟩ : ∃ v, ds.getD k z3 = v := ⟨_, rfl⟩
          rw [hu] at hc0 hc1 hc2
          have HU := Lib.hid hu; clear hu
          by_cases hx : ub = 0
          · subst hx
            go_wp2
            go_roundw
            case rel =>
              refine ⟨k + 1, by omega, by go_num, fun j hj => ?_, ka, hB⟩
              by_cases e : j = k
              · rw [e, HU.out]; rfl
              · exact hall.out j (by omega)
            case measure => simp [intOf]; omega
          · have hx' : (ub == 0) = false := by simpa using hx
            have HX := Lib.hid hx; clear hx
            go_wp2
            go_ret
            refine ⟨ret_bool ?_, hB⟩
            rw [← HZ.out, HT.out, all_take_no zero4 ds z3 k (by rw [ELD.out]; omega) (by rw [HU.out]; simpa [zero4] using HX.out)]
            simp
        · have HZD : Hid (ds.all zero4 = true) := by show _ = _; exact all_of zero4 ds z3 (fun j hj => hall.out j (by rw [ELD.out] at hj; omega))
          go_wp2
          go_loopw [4] (fun i wr => ∃ (k : Nat), k ≤ lh0 ∧ i = .int .i64 k ∧ Hid (∀ j, j < k → goodH n (hl hs) j = true) ∧ Blk wr w.heap.size 40 #[.int .i64 n, .int .i64 id, .int .i64 own, .int .i64 view, .int .i64 left, .slice Av lv0 cv, .int .i64 0, .int .i64 0, .int .i64 dn, .slice Ap lp0 cp, .slice Ao lo0 co, .slice Ar lr0 cr, .slice Ad ld0 cd, .slice Ah lh0 ch] ∧ Below w.heap.size w wr) (fun i _ => lh0 - (intOf i).toNat)
          case atStart => exact ⟨0, Nat.zero_le _, rfl, fun j hj => absurd hj (by omega), ka, hB⟩
          case round =>
            clear hk hlt hall ka hB ra
            obtain ⟨k, hk, rfl, hall, ka, hB⟩ := hrel
            have ra := ka.rule
            by_cases hlt : k < lh0
            · obtain ⟨b, off, rfl, hb, hc0, hc1, hrv⟩ := RdH.at_ (RHH.out.below hB) (k := k) (by rw [ELH.out]; omega)
              have hpv : 0 < k → wr.cell? ⟨b, off + (k - 1) * 2, none⟩ = some (.int .i64 (hs.getD (k - 1) zH).v) := fun h0 => by
                obtain ⟨b', off', he, _, h1, _⟩ := RdH.at_ (RHH.out.below hB) (k := k - 1) (by rw [ELH.out]; omega)
                injection he with he
                injection he with he1 he2
                subst he1 he2
                exact h1
              have hfw := FHH.out.2 k (by rw [ELH.out]; omega)
              have HG : Hid (goodH n (hl hs) k = (repsOkB n (hs.getD k zH).v (rl (hs.getD k zH).ps) && (decide (k = 0) || decide ((hs.getD (k - 1) zH).v < (hs.getD k zH).v)))) := by show _ = _; unfold goodH; rw [hl_at, hl_at]; rfl
              obtain ⟨⟨uv, ups, A', c'⟩, hu⟩ : ∃ v, hs.getD k zH = v := ⟨_, rfl⟩
              obtain ⟨pf, hp⟩ : ∃ v, (hs.getD (k - 1) zH).v = v := ⟨_, rfl⟩
              rw [hu] at hc0 hc1 hrv hfw HG
              rw [hp] at hpv HG
              simp only at hc0 hc1 hrv hfw HG
              clear hu hp
              have HRV := Lib.hid ((fun x : Lat wr => (hrv.below (x.below.mono hB.size)).more (Nat.le_trans hB.size x.below.size) : ∀ x : Lat wr, RdR x.w x.w.heap.size A' ups)); clear hrv
              have CA := fun x => lat_blk ka x
              have C0 := fun x : Lat wr => x.cell hc0
              have C1 := fun x : Lat wr => x.cell hc1
              obtain ⟨ul, hul⟩ : ∃ m, ups.length = m := ⟨_, rfl⟩
              have HRO := Lib.hid (fun (q : Bool) (hq : repsOkB n uv (rl ups) = q) (x : Lat wr) => specReportsOk_is q n uv A' c' ups hq x.w (HRV.out x) hfw)
              rw [hul] at HRO C1 hc1
              clear hul HRV hfw
              have HKA := Lib.hid ka; have HBB := Lib.hid hB; clear ka hB hc0 hc1
              rcases hq : repsOkB n uv (rl ups) with _ | _
              · have HQ := Lib.hid hq; clear hq hpv
                go_wp2
                refine wp_region_lat (by kernel_rfl) (by kernel_rfl) ?_
                repeat (go_big_quiet_step ((first | (go_at_call 76; exact lat_call _ (HRO.out false HQ.out _)))))
                refine wpQuiet_nil ?_
                rintro w3 ⟨⟨_, hb3⟩, rfl⟩
                have hB3 := HBB.out.trans (hb3.mono HBB.out.size); have kb3 := HKA.out.on hb3
                clear C0 C1 CA ra
                go_wp2
                go_ret
                refine ⟨ret_bool ?_, hB3⟩
                rw [← HZ.out, HT.out, HZD.out, heard_no (k := k) (by rw [hl_len, ELH.out]; omega) (by rw [HG.out]; simp [HQ.out])]
                simp
              have HQ := Lib.hid hq; clear hq
              by_cases h4 : 0 < k
              · have hp0 := hpv h4
                clear hpv
                obtain ⟨p, hkp⟩ : ∃ p, k = p + 1 := ⟨k - 1, by omega⟩
                have hE : (k : Int) - 1 = (p : Int) := by omega
                have hW : IntKind.i64.wrap (p : Int) = (p : Int) := IntWalk.i64_in _ (by omega)
                rw [show k - 1 = p by omega] at hp0
                have P0 := fun x : Lat wr => x.cell hp0
                have hw4 : (p : Int) < (lh0 : Int) := by omega
                have hw5 : p < lh0 := by omega
                have HKP := Lib.hid hkp; clear hkp hp0
                by_cases h5 : pf < uv
                · have hd5 : decide (uv ≤ pf) = false := by simp; omega
                  go_wp2
                  refine wp_region_lat (by kernel_rfl) (by kernel_rfl) ?_
                  repeat (go_big_quiet_step ((first | (go_at_call 76; exact lat_call _ (HRO.out true HQ.out _)))))
                  refine wpQuiet_nil ?_
                  rintro w3 ⟨⟨_, hb3⟩, rfl⟩
                  have hB3 := HBB.out.trans (hb3.mono HBB.out.size); have kb3 := HKA.out.on hb3
                  clear C0 C1 CA P0 ra
                  go_wp2
                  go_roundw
                  case rel =>
                    refine ⟨k + 1, by omega, by go_num, fun j hj => ?_, kb3, hB3⟩
                    by_cases e : j = k
                    · rw [e, HG.out]; simp [HQ.out, h5]
                    · exact hall.out j (by omega)
                  case measure => simp [intOf]; omega
                · have hd5 : decide (uv ≤ pf) = true := by simp; omega
                  go_wp2
                  refine wp_region_lat (by kernel_rfl) (by kernel_rfl) ?_
                  repeat (go_big_quiet_step ((first | (go_at_call 76; exact lat_call _ (HRO.out true HQ.out _)))))
                  refine wpQuiet_nil ?_
                  rintro w3 ⟨⟨_, hb3⟩, rfl⟩
                  have hB3 := HBB.out.trans (hb3.mono HBB.out.size); have kb3 := HKA.out.on hb3
                  clear C0 C1 CA P0 ra
                  go_wp2
                  go_ret
                  refine ⟨ret_bool ?_, hB3⟩
                  rw [← HZ.out, HT.out, HZD.out, heard_no (k := k) (by rw [hl_len, ELH.out]; omega) (by rw [HG.out]; simp [h5]; intro _; omega)]
                  simp
              · clear hpv
                have hd : decide ((0 : Int) < (k : Int)) = false := by simp; omega
                have HK0 : Hid (k = 0) := by show _ = _; omega
                go_wp2
                refine wp_region_lat (by kernel_rfl) (by kernel_rfl) ?_
                repeat (go_big_quiet_step ((first | (go_at_call 76; exact lat_call _ (HRO.out true HQ.out _)))))
                refine wpQuiet_nil ?_
                rintro w3 ⟨⟨_, hb3⟩, rfl⟩
                have hB3 := HBB.out.trans (hb3.mono HBB.out.size); have kb3 := HKA.out.on hb3
                clear C0 C1 CA ra
                go_wp2
                go_roundw
                case rel =>
                  refine ⟨k + 1, by omega, by go_num, fun j hj => ?_, kb3, hB3⟩
                  by_cases e : j = k
                  · rw [e, HG.out]; simp [HQ.out, HK0.out]
                  · exact hall.out j (by omega)
                case measure => simp [intOf]; omega
            · have HHR : Hid (heardB n (hl hs) = true) := by show _ = _; exact heard_yes fun j hj => hall.out j (by rw [hl_len, ELH.out] at hj; omega)
              go_wp2
              go_ret
              exact ⟨ret_bool (by rw [← HZ.out, HT.out, HZD.out, HHR.out]; rfl), hB⟩
    · have hl0' : (lv == 0) = false := by simpa using hl0
      have hl0'' : (lv != 0) = true := by simpa using hl0
      have htl : tl = false := by rw [← HTL.out]; simp [lockOkB, hl0, valOkB]
      subst htl
      have HL0 := Lib.hid hl0; clear hl0
      go_wp2
      go_ret
      exact ⟨ret_bool (by rw [← HZ.out]; rfl), hB⟩
  · have hx' : (lx == 0) = false := by simpa using hx
    have hx'' : (lx != 0) = true := by simpa using hx
    obtain ⟨qv, hqv⟩ : ∃ t, valOkB lx = t := ⟨_, rfl⟩
    have HX := Lib.hid (show tl = (qv && decide (0 ≤ lv ∧ lv < view + 1)) from by rw [← HTL.out, ← hqv]; simp [lockOkB, hx]); have HQV := Lib.hid hqv; clear hx hqv
    rcases qv with _ | _
    · have htl : tl = false := by rw [HX.out]; rfl
      subst htl
      go_wp2_with (go_at_call 71; refine (specVal_is lx false HQV.out _).mono ?_; rintro e w1 ⟨rfl, rfl⟩)
      go_ret
      exact ⟨ret_bool (by rw [← HZ.out]; rfl), hB⟩
    by_cases k1 : 0 ≤ lv
    · by_cases k2 : lv ≤ view
      · have htl : tl = true := by rw [HX.out]; simp; omega
        subst htl
        go_wp2_with fail
        refine (specVal_is lx true HQV.out _).mono ?_
        rintro e w1 ⟨rfl, rfl⟩
        go_wp2_with fail
        refine (HP.out _ hB).mono ?_
        rintro e w1 ⟨rfl, hb⟩
        have ka' := ka.on hb; have hB' := on_ hB hb
        clear ka hB ra hb; have ka := ka'; have hB := hB'; clear ka' hB'; have ra := ka.rule
        rcases tp with _ | _
        · go_wp2
          go_ret
          exact ⟨ret_bool (by rw [← HZ.out, HT.out]; simp), hB⟩
        go_wp2_with fail
        refine (HO.out _ hB).mono ?_
        rintro e w1 ⟨rfl, hb⟩
        have ka' := ka.on hb; have hB' := on_ hB hb
        clear ka hB ra hb; have ka := ka'; have hB := hB'; clear ka' hB'; have ra := ka.rule
        rcases to with _ | _
        · go_wp2
          go_ret
          exact ⟨ret_bool (by rw [← HZ.out, HT.out]; simp), hB⟩
        go_wp2_with fail
        refine (HR.out _ hB).mono ?_
        rintro e w1 ⟨rfl, hb⟩
        have ka' := ka.on hb; have hB' := on_ hB hb
        clear ka hB ra hb; have ka := ka'; have hB := hB'; clear ka' hB'; have ra := ka.rule
        rcases tr with _ | _
        · go_wp2
          go_ret
          exact ⟨ret_bool (by rw [← HZ.out, HT.out]; simp), hB⟩
        go_wp2_with fail
        refine (HD.out _ hB).mono ?_
        rintro e w1 ⟨rfl, hb⟩
        have ka' := ka.on hb; have hB' := on_ hB hb
        clear ka hB ra hb; have ka := ka'; have hB := hB'; clear ka' hB'; have ra := ka.rule
        rcases td with _ | _
        · go_wp2
          go_ret
          exact ⟨ret_bool (by rw [← HZ.out, HT.out]; simp), hB⟩
        go_wp2
        go_loopw [3] (fun i wr => ∃ (k : Nat), k ≤ ld0 ∧ i = .int .i64 k ∧ Hid (∀ j, j < k → zero4 (ds.getD j z3) = true) ∧ Blk wr w.heap.size 40 #[.int .i64 n, .int .i64 id, .int .i64 own, .int .i64 view, .int .i64 left, .slice Av lv0 cv, .int .i64 lv, .int .i64 lx, .int .i64 dn, .slice Ap lp0 cp, .slice Ao lo0 co, .slice Ar lr0 cr, .slice Ad ld0 cd, .slice Ah lh0 ch] ∧ Below w.heap.size w wr) (fun i _ => ld0 - (intOf i).toNat)
        case atStart => exact ⟨0, Nat.zero_le _, rfl, fun j hj => absurd hj (by omega), ka, hB⟩
        case round =>
          obtain ⟨k, hk, rfl, hall, ka, hB⟩ := hrel
          have ra := ka.rule
          by_cases hlt : k < ld0
          · obtain ⟨b, off, rfl, hb, hc0, hc1, hc2⟩ := Rd3.at_ (RDD.out.below hB) (k := k) (by rw [ELD.out]; omega)
            obtain ⟨⟨ua, ub, uc⟩, hu⟩ : ∃ v, ds.getD k z3 = v := ⟨_, rfl⟩
            rw [hu] at hc0 hc1 hc2
            have HU := Lib.hid hu; clear hu
            by_cases hx : ub = 0
            · subst hx
              go_wp2
              go_roundw
              case rel =>
                refine ⟨k + 1, by omega, by go_num, fun j hj => ?_, ka, hB⟩
                by_cases e : j = k
                · rw [e, HU.out]; rfl
                · exact hall.out j (by omega)
              case measure => simp [intOf]; omega
            · have hx' : (ub == 0) = false := by simpa using hx
              have HX := Lib.hid hx; clear hx
              go_wp2
              go_ret
              refine ⟨ret_bool ?_, hB⟩
              rw [← HZ.out, HT.out, all_take_no zero4 ds z3 k (by rw [ELD.out]; omega) (by rw [HU.out]; simpa [zero4] using HX.out)]
              simp
          · have HZD : Hid (ds.all zero4 = true) := by show _ = _; exact all_of zero4 ds z3 (fun j hj => hall.out j (by rw [ELD.out] at hj; omega))
            go_wp2
            go_loopw [4] (fun i wr => ∃ (k : Nat), k ≤ lh0 ∧ i = .int .i64 k ∧ Hid (∀ j, j < k → goodH n (hl hs) j = true) ∧ Blk wr w.heap.size 40 #[.int .i64 n, .int .i64 id, .int .i64 own, .int .i64 view, .int .i64 left, .slice Av lv0 cv, .int .i64 lv, .int .i64 lx, .int .i64 dn, .slice Ap lp0 cp, .slice Ao lo0 co, .slice Ar lr0 cr, .slice Ad ld0 cd, .slice Ah lh0 ch] ∧ Below w.heap.size w wr) (fun i _ => lh0 - (intOf i).toNat)
            case atStart => exact ⟨0, Nat.zero_le _, rfl, fun j hj => absurd hj (by omega), ka, hB⟩
            case round =>
              clear hk hlt hall ka hB ra
              obtain ⟨k, hk, rfl, hall, ka, hB⟩ := hrel
              have ra := ka.rule
              by_cases hlt : k < lh0
              · obtain ⟨b, off, rfl, hb, hc0, hc1, hrv⟩ := RdH.at_ (RHH.out.below hB) (k := k) (by rw [ELH.out]; omega)
                have hpv : 0 < k → wr.cell? ⟨b, off + (k - 1) * 2, none⟩ = some (.int .i64 (hs.getD (k - 1) zH).v) := fun h0 => by
                  obtain ⟨b', off', he, _, h1, _⟩ := RdH.at_ (RHH.out.below hB) (k := k - 1) (by rw [ELH.out]; omega)
                  injection he with he
                  injection he with he1 he2
                  subst he1 he2
                  exact h1
                have hfw := FHH.out.2 k (by rw [ELH.out]; omega)
                have HG : Hid (goodH n (hl hs) k = (repsOkB n (hs.getD k zH).v (rl (hs.getD k zH).ps) && (decide (k = 0) || decide ((hs.getD (k - 1) zH).v < (hs.getD k zH).v)))) := by show _ = _; unfold goodH; rw [hl_at, hl_at]; rfl
                obtain ⟨⟨uv, ups, A', c'⟩, hu⟩ : ∃ v, hs.getD k zH = v := ⟨_, rfl⟩
                obtain ⟨pf, hp⟩ : ∃ v, (hs.getD (k - 1) zH).v = v := ⟨_, rfl⟩
                rw [hu] at hc0 hc1 hrv hfw HG
                rw [hp] at hpv HG
                simp only at hc0 hc1 hrv hfw HG
                clear hu hp
                have HRV := Lib.hid ((fun x : Lat wr => (hrv.below (x.below.mono hB.size)).more (Nat.le_trans hB.size x.below.size) : ∀ x : Lat wr, RdR x.w x.w.heap.size A' ups)); clear hrv
                have CA := fun x => lat_blk ka x
                have C0 := fun x : Lat wr => x.cell hc0
                have C1 := fun x : Lat wr => x.cell hc1
                obtain ⟨ul, hul⟩ : ∃ m, ups.length = m := ⟨_, rfl⟩
                have HRO := Lib.hid (fun (q : Bool) (hq : repsOkB n uv (rl ups) = q) (x : Lat wr) => specReportsOk_is q n uv A' c' ups hq x.w (HRV.out x) hfw)
                rw [hul] at HRO C1 hc1
                clear hul HRV hfw
                have HKA := Lib.hid ka; have HBB := Lib.hid hB; clear ka hB hc0 hc1
                rcases hq : repsOkB n uv (rl ups) with _ | _
                · have HQ := Lib.hid hq; clear hq hpv
                  go_wp2
                  refine wp_region_lat (by kernel_rfl) (by kernel_rfl) ?_
                  repeat (go_big_quiet_step ((first | (go_at_call 76; exact lat_call _ (HRO.out false HQ.out _)))))
                  refine wpQuiet_nil ?_
                  rintro w3 ⟨⟨_, hb3⟩, rfl⟩
                  have hB3 := HBB.out.trans (hb3.mono HBB.out.size); have kb3 := HKA.out.on hb3
                  clear C0 C1 CA ra
                  go_wp2
                  go_ret
                  refine ⟨ret_bool ?_, hB3⟩
                  rw [← HZ.out, HT.out, HZD.out, heard_no (k := k) (by rw [hl_len, ELH.out]; omega) (by rw [HG.out]; simp [HQ.out])]
                  simp
                have HQ := Lib.hid hq; clear hq
                by_cases h4 : 0 < k
                · have hp0 := hpv h4
                  clear hpv
                  obtain ⟨p, hkp⟩ : ∃ p, k = p + 1 := ⟨k - 1, by omega⟩
                  have hE : (k : Int) - 1 = (p : Int) := by omega
                  have hW : IntKind.i64.wrap (p : Int) = (p : Int) := IntWalk.i64_in _ (by omega)
                  rw [show k - 1 = p by omega] at hp0
                  have P0 := fun x : Lat wr => x.cell hp0
                  have hw4 : (p : Int) < (lh0 : Int) := by omega
                  have hw5 : p < lh0 := by omega
                  have HKP := Lib.hid hkp; clear hkp hp0
                  by_cases h5 : pf < uv
                  · have hd5 : decide (uv ≤ pf) = false := by simp; omega
                    go_wp2
                    refine wp_region_lat (by kernel_rfl) (by kernel_rfl) ?_
                    repeat (go_big_quiet_step ((first | (go_at_call 76; exact lat_call _ (HRO.out true HQ.out _)))))
                    refine wpQuiet_nil ?_
                    rintro w3 ⟨⟨_, hb3⟩, rfl⟩
                    have hB3 := HBB.out.trans (hb3.mono HBB.out.size); have kb3 := HKA.out.on hb3
                    clear C0 C1 CA P0 ra
                    go_wp2
                    go_roundw
                    case rel =>
                      refine ⟨k + 1, by omega, by go_num, fun j hj => ?_, kb3, hB3⟩
                      by_cases e : j = k
                      · rw [e, HG.out]; simp [HQ.out, h5]
                      · exact hall.out j (by omega)
                    case measure => simp [intOf]; omega
                  · have hd5 : decide (uv ≤ pf) = true := by simp; omega
                    go_wp2
                    refine wp_region_lat (by kernel_rfl) (by kernel_rfl) ?_
                    repeat (go_big_quiet_step ((first | (go_at_call 76; exact lat_call _ (HRO.out true HQ.out _)))))
                    refine wpQuiet_nil ?_
                    rintro w3 ⟨⟨_, hb3⟩, rfl⟩
                    have hB3 := HBB.out.trans (hb3.mono HBB.out.size); have kb3 := HKA.out.on hb3
                    clear C0 C1 CA P0 ra
                    go_wp2
                    go_ret
                    refine ⟨ret_bool ?_, hB3⟩
                    rw [← HZ.out, HT.out, HZD.out, heard_no (k := k) (by rw [hl_len, ELH.out]; omega) (by rw [HG.out]; simp [h5]; intro _; omega)]
                    simp
                · clear hpv
                  have hd : decide ((0 : Int) < (k : Int)) = false := by simp; omega
                  have HK0 : Hid (k = 0) := by show _ = _; omega
                  go_wp2
                  refine wp_region_lat (by kernel_rfl) (by kernel_rfl) ?_
                  repeat (go_big_quiet_step ((first | (go_at_call 76; exact lat_call _ (HRO.out true HQ.out _)))))
                  refine wpQuiet_nil ?_
                  rintro w3 ⟨⟨_, hb3⟩, rfl⟩
                  have hB3 := HBB.out.trans (hb3.mono HBB.out.size); have kb3 := HKA.out.on hb3
                  clear C0 C1 CA ra
                  go_wp2
                  go_roundw
                  case rel =>
                    refine ⟨k + 1, by omega, by go_num, fun j hj => ?_, kb3, hB3⟩
                    by_cases e : j = k
                    · rw [e, HG.out]; simp [HQ.out, HK0.out]
                    · exact hall.out j (by omega)
                  case measure => simp [intOf]; omega
              · have HHR : Hid (heardB n (hl hs) = true) := by show _ = _; exact heard_yes fun j hj => hall.out j (by rw [hl_len, ELH.out] at hj; omega)
                go_wp2
                go_ret
                exact ⟨ret_bool (by rw [← HZ.out, HT.out, HZD.out, HHR.out]; rfl), hB⟩
      · have htl : tl = false := by rw [HX.out]; simp; omega
        subst htl
        go_wp2_with (go_at_call 71; refine (specVal_is lx true HQV.out _).mono ?_; rintro e w1 ⟨rfl, rfl⟩)
        go_ret
        exact ⟨ret_bool (by rw [← HZ.out]; rfl), hB⟩
    · have htl : tl = false := by rw [HX.out]; simp; omega
      subst htl
      go_wp2_with (go_at_call 71; refine (specVal_is lx true HQV.out _).mono ?_; rintro e w1 ⟨rfl, rfl⟩)
      go_ret
      exact ⟨ret_bool (by rw [← HZ.out]; rfl), hB⟩
end Go.Proofs.Ytfdfjmibjnmhpaa.V
