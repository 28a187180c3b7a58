/-
  RepOk of the model: what the first test refuses. No statement is proved here.
-/
import Derived.Test.YtfdfjmibjnmhpaaQSpec
import Derived.Test.YtfdfjmibjnmhpaaRepOk
import Derived.Deep.RegionWith
set_option linter.unusedVariables false
set_option maxRecDepth 100000
namespace Go.Proofs.Ytfdfjmibjnmhpaa.V
open Go.RowKit Go.Proofs.Ytfdfjmibjnmhpaa.B

theorem wait_is (view y : Int) (h : viewOkB view = true) (hy : 3 + view = y) (w : World) : Calls Try.prog 73 #[.int .i64 view] w fun e w' => e = .returned (.int .i64 y) ∧ w' = w := by
  subst hy
  have h1 : 0 ≤ view ∧ view ≤ 9 := by simpa [viewOkB] using h
  obtain ⟨h2, h3⟩ := h1
  clear h
  go_enter Try.func73, Try.ntmps73
  go_wp2
  go_ret
  exact ⟨rfl, rfl⟩

set_option maxHeartbeats 3200000 in
theorem specRepOk_f0 (q : Rq) (w : World) (hr : RdQ w w.heap.size q) (hf : FewQ q) (hs : sizeB q.n = false) :
    Calls Try.prog 36 #[q.agg] w fun e w' => e = .returned (.bool false) ∧ Below w.heap.size w w' := by
  obtain ⟨n, id, own, view, left, voted, lv, lx, dn, pr, vo, re, ds, hs, Av, Ap, Ao, Ar, Ad, Ah, cv, cp, co, cr, cd, ch⟩ := q
  obtain ⟨rv, rp, ro, rr, rd, rh⟩ := hr
  obtain ⟨fv, fp, fo, fr, fd, fh⟩ := hf
  simp only [Rq.agg, Rq.cells] at *
  have HS := Lib.hid hs; clear hs
  obtain ⟨lv0, elv0⟩ : ∃ m, voted.length = m := ⟨_, rfl⟩
  obtain ⟨lp0, elp0⟩ : ∃ m, pr.length = m := ⟨_, rfl⟩
  obtain ⟨lo0, elo0⟩ : ∃ m, vo.length = m := ⟨_, rfl⟩
  obtain ⟨lr0, elr0⟩ : ∃ m, re.length = m := ⟨_, rfl⟩
  obtain ⟨ld0, eld0⟩ : ∃ m, ds.length = m := ⟨_, rfl⟩
  obtain ⟨lh0, elh0⟩ : ∃ m, hs.length = m := ⟨_, rfl⟩
  simp only [elv0, elp0, elo0, elr0, eld0, elh0]
  clear elv0 elp0 elo0 elr0 eld0 elh0 rv rp ro rr rd rh fv fp fo fr fd fh
  have ka := Blk.new w 40 #[.int .i64 n, .int .i64 id, .int .i64 own, .int .i64 view, .int .i64 left, .slice Av lv0 cv, .int .i64 lv, .int .i64 lx, .int .i64 dn, .slice Ap lp0 cp, .slice Ao lo0 co, .slice Ar lr0 cr, .slice Ad ld0 cd, .slice Ah lh0 ch]
  have C0 := fun x => lat_blk ka x
  have HB := Lib.hid (fun (x : Lat (w.alloc (.cells #[.int .i64 n, .int .i64 id, .int .i64 own, .int .i64 view, .int .i64 left, .slice Av lv0 cv, .int .i64 lv, .int .i64 lx, .int .i64 dn, .slice Ap lp0 cp, .slice Ao lo0 co, .slice Ar lr0 cr, .slice Ad ld0 cd, .slice Ah lh0 ch] 40))) => on_ (up_ (Below.refl w.heap.size w) _) x.below)
  go_enter Try.func36, Try.ntmps36
  go_wp2
  refine wp_region_lat (by kernel_rfl) (by kernel_rfl) ?_
  repeat (go_big_quiet_step ((first | (go_at_call 70; exact lat_same _ (specSize_is n false HS.out _)))))
  refine wpQuiet_nil ?_
  rintro w3 ⟨⟨_, hb3⟩, rfl⟩
  have hB3 := HB.out ⟨_, hb3⟩
  clear C0 ka
  go_wp2
  go_ret
  exact ⟨rfl, hB3⟩

set_option maxHeartbeats 3200000 in
theorem specRepOk_f1 (q : Rq) (w : World) (hr : RdQ w w.heap.size q) (hf : FewQ q) (hs : sizeB q.n = true) (h1 : decide (0 ≤ q.id) = false) :
    Calls Try.prog 36 #[q.agg] w fun e w' => e = .returned (.bool false) ∧ Below w.heap.size w w' := by
  obtain ⟨n, id, own, view, left, voted, lv, lx, dn, pr, vo, re, ds, hs, Av, Ap, Ao, Ar, Ad, Ah, cv, cp, co, cr, cd, ch⟩ := q
  obtain ⟨rv, rp, ro, rr, rd, rh⟩ := hr
  obtain ⟨fv, fp, fo, fr, fd, fh⟩ := hf
  simp only [Rq.agg, Rq.cells] at *
  have HS := Lib.hid hs; clear hs
  have d1 : decide (id < 0) = true := by simp at h1 ⊢; omega
  have E1 := Lib.hid h1; clear h1
  obtain ⟨lv0, elv0⟩ : ∃ m, voted.length = m := ⟨_, rfl⟩
  obtain ⟨lp0, elp0⟩ : ∃ m, pr.length = m := ⟨_, rfl⟩
  obtain ⟨lo0, elo0⟩ : ∃ m, vo.length = m := ⟨_, rfl⟩
  obtain ⟨lr0, elr0⟩ : ∃ m, re.length = m := ⟨_, rfl⟩
  obtain ⟨ld0, eld0⟩ : ∃ m, ds.length = m := ⟨_, rfl⟩
  obtain ⟨lh0, elh0⟩ : ∃ m, hs.length = m := ⟨_, rfl⟩
  simp only [elv0, elp0, elo0, elr0, eld0, elh0]
  clear elv0 elp0 elo0 elr0 eld0 elh0 rv rp ro rr rd rh fv fp fo fr fd fh
  have ka := Blk.new w 40 #[.int .i64 n, .int .i64 id, .int .i64 own, .int .i64 view, .int .i64 left, .slice Av lv0 cv, .int .i64 lv, .int .i64 lx, .int .i64 dn, .slice Ap lp0 cp, .slice Ao lo0 co, .slice Ar lr0 cr, .slice Ad ld0 cd, .slice Ah lh0 ch]
  have C0 := fun x => lat_blk ka x
  have HB := Lib.hid (fun (x : Lat (w.alloc (.cells #[.int .i64 n, .int .i64 id, .int .i64 own, .int .i64 view, .int .i64 left, .slice Av lv0 cv, .int .i64 lv, .int .i64 lx, .int .i64 dn, .slice Ap lp0 cp, .slice Ao lo0 co, .slice Ar lr0 cr, .slice Ad ld0 cd, .slice Ah lh0 ch] 40))) => on_ (up_ (Below.refl w.heap.size w) _) x.below)
  go_enter Try.func36, Try.ntmps36
  go_wp2
  refine wp_region_lat (by kernel_rfl) (by kernel_rfl) ?_
  repeat (go_big_quiet_step ((first | (go_at_call 70; exact lat_same _ (specSize_is n true HS.out _)))))
  refine wpQuiet_nil ?_
  rintro w3 ⟨⟨_, hb3⟩, rfl⟩
  have hB3 := HB.out ⟨_, hb3⟩
  clear C0 ka
  go_wp2
  go_ret
  exact ⟨rfl, hB3⟩

set_option maxHeartbeats 3200000 in
theorem specRepOk_f2 (q : Rq) (w : World) (hr : RdQ w w.heap.size q) (hf : FewQ q) (hs : sizeB q.n = true) (h1 : decide (0 ≤ q.id) = true) (h2 : decide (q.id < q.n) = false) :
    Calls Try.prog 36 #[q.agg] w fun e w' => e = .returned (.bool false) ∧ Below w.heap.size w w' := by
  obtain ⟨n, id, own, view, left, voted, lv, lx, dn, pr, vo, re, ds, hs, Av, Ap, Ao, Ar, Ad, Ah, cv, cp, co, cr, cd, ch⟩ := q
  obtain ⟨rv, rp, ro, rr, rd, rh⟩ := hr
  obtain ⟨fv, fp, fo, fr, fd, fh⟩ := hf
  simp only [Rq.agg, Rq.cells] at *
  have HS := Lib.hid hs; clear hs
  have d1 : decide (id < 0) = false := by simp at h1 ⊢; omega
  have d2 : decide (n ≤ id) = true := by simp at h2 ⊢; omega
  have g1 : 0 ≤ id := by simpa using h1
  have E1 := Lib.hid h1; clear h1
  have E2 := Lib.hid h2; clear h2
  obtain ⟨lv0, elv0⟩ : ∃ m, voted.length = m := ⟨_, rfl⟩
  obtain ⟨lp0, elp0⟩ : ∃ m, pr.length = m := ⟨_, rfl⟩
  obtain ⟨lo0, elo0⟩ : ∃ m, vo.length = m := ⟨_, rfl⟩
  obtain ⟨lr0, elr0⟩ : ∃ m, re.length = m := ⟨_, rfl⟩
  obtain ⟨ld0, eld0⟩ : ∃ m, ds.length = m := ⟨_, rfl⟩
  obtain ⟨lh0, elh0⟩ : ∃ m, hs.length = m := ⟨_, rfl⟩
  simp only [elv0, elp0, elo0, elr0, eld0, elh0]
  clear elv0 elp0 elo0 elr0 eld0 elh0 rv rp ro rr rd rh fv fp fo fr fd fh
  have ka := Blk.new w 40 #[.int .i64 n, .int .i64 id, .int .i64 own, .int .i64 view, .int .i64 left, .slice Av lv0 cv, .int .i64 lv, .int .i64 lx, .int .i64 dn, .slice Ap lp0 cp, .slice Ao lo0 co, .slice Ar lr0 cr, .slice Ad ld0 cd, .slice Ah lh0 ch]
  have C0 := fun x => lat_blk ka x
  have HB := Lib.hid (fun (x : Lat (w.alloc (.cells #[.int .i64 n, .int .i64 id, .int .i64 own, .int .i64 view, .int .i64 left, .slice Av lv0 cv, .int .i64 lv, .int .i64 lx, .int .i64 dn, .slice Ap lp0 cp, .slice Ao lo0 co, .slice Ar lr0 cr, .slice Ad ld0 cd, .slice Ah lh0 ch] 40))) => on_ (up_ (Below.refl w.heap.size w) _) x.below)
  go_enter Try.func36, Try.ntmps36
  go_wp2
  refine wp_region_lat (by kernel_rfl) (by kernel_rfl) ?_
  repeat (go_big_quiet_step ((first | (go_at_call 70; exact lat_same _ (specSize_is n true HS.out _)))))
  refine wpQuiet_nil ?_
  rintro w3 ⟨⟨_, hb3⟩, rfl⟩
  have hB3 := HB.out ⟨_, hb3⟩
  clear C0 ka
  go_wp2
  go_ret
  exact ⟨rfl, hB3⟩

set_option maxHeartbeats 3200000 in
theorem specRepOk_f3 (q : Rq) (w : World) (hr : RdQ w w.heap.size q) (hf : FewQ q) (hs : sizeB q.n = true) (h1 : decide (0 ≤ q.id) = true) (h2 : decide (q.id < q.n) = true) (h3 : valOkB q.own = false) :
    Calls Try.prog 36 #[q.agg] w fun e w' => e = .returned (.bool false) ∧ Below w.heap.size w w' := by
  obtain ⟨n, id, own, view, left, voted, lv, lx, dn, pr, vo, re, ds, hs, Av, Ap, Ao, Ar, Ad, Ah, cv, cp, co, cr, cd, ch⟩ := q
  obtain ⟨rv, rp, ro, rr, rd, rh⟩ := hr
  obtain ⟨fv, fp, fo, fr, fd, fh⟩ := hf
  simp only [Rq.agg, Rq.cells] at *
  have HS := Lib.hid hs; clear hs
  have d1 : decide (id < 0) = false := by simp at h1 ⊢; omega
  have d2 : decide (n ≤ id) = false := by simp at h2 ⊢; omega
  have H3 := Lib.hid h3; clear h3
  have g1 : 0 ≤ id := by simpa using h1
  have g2 : id < n := by simpa using h2
  have E1 := Lib.hid h1; clear h1
  have E2 := Lib.hid h2; clear h2
  obtain ⟨lv0, elv0⟩ : ∃ m, voted.length = m := ⟨_, rfl⟩
  obtain ⟨lp0, elp0⟩ : ∃ m, pr.length = m := ⟨_, rfl⟩
  obtain ⟨lo0, elo0⟩ : ∃ m, vo.length = m := ⟨_, rfl⟩
  obtain ⟨lr0, elr0⟩ : ∃ m, re.length = m := ⟨_, rfl⟩
  obtain ⟨ld0, eld0⟩ : ∃ m, ds.length = m := ⟨_, rfl⟩
  obtain ⟨lh0, elh0⟩ : ∃ m, hs.length = m := ⟨_, rfl⟩
  simp only [elv0, elp0, elo0, elr0, eld0, elh0]
  clear elv0 elp0 elo0 elr0 eld0 elh0 rv rp ro rr rd rh fv fp fo fr fd fh
  have ka := Blk.new w 40 #[.int .i64 n, .int .i64 id, .int .i64 own, .int .i64 view, .int .i64 left, .slice Av lv0 cv, .int .i64 lv, .int .i64 lx, .int .i64 dn, .slice Ap lp0 cp, .slice Ao lo0 co, .slice Ar lr0 cr, .slice Ad ld0 cd, .slice Ah lh0 ch]
  have C0 := fun x => lat_blk ka x
  have HB := Lib.hid (fun (x : Lat (w.alloc (.cells #[.int .i64 n, .int .i64 id, .int .i64 own, .int .i64 view, .int .i64 left, .slice Av lv0 cv, .int .i64 lv, .int .i64 lx, .int .i64 dn, .slice Ap lp0 cp, .slice Ao lo0 co, .slice Ar lr0 cr, .slice Ad ld0 cd, .slice Ah lh0 ch] 40))) => on_ (up_ (Below.refl w.heap.size w) _) x.below)
  go_enter Try.func36, Try.ntmps36
  go_wp2
  refine wp_region_lat (by kernel_rfl) (by kernel_rfl) ?_
  repeat (go_big_quiet_step ((first | (go_at_call 70; exact lat_same _ (specSize_is n true HS.out _)) | (go_at_call 71; exact lat_same _ (specVal_is own false H3.out _)))))
  refine wpQuiet_nil ?_
  rintro w3 ⟨⟨_, hb3⟩, rfl⟩
  have hB3 := HB.out ⟨_, hb3⟩
  clear C0 ka
  go_wp2
  go_ret
  exact ⟨rfl, hB3⟩

set_option maxHeartbeats 3200000 in
theorem specRepOk_f4 (q : Rq) (w : World) (hr : RdQ w w.heap.size q) (hf : FewQ q) (hs : sizeB q.n = true) (h1 : decide (0 ≤ q.id) = true) (h2 : decide (q.id < q.n) = true) (h3 : valOkB q.own = true) (h4 : viewOkB q.view = false) :
    Calls Try.prog 36 #[q.agg] w fun e w' => e = .returned (.bool false) ∧ Below w.heap.size w w' := by
  obtain ⟨n, id, own, view, left, voted, lv, lx, dn, pr, vo, re, ds, hs, Av, Ap, Ao, Ar, Ad, Ah, cv, cp, co, cr, cd, ch⟩ := q
  obtain ⟨rv, rp, ro, rr, rd, rh⟩ := hr
  obtain ⟨fv, fp, fo, fr, fd, fh⟩ := hf
  simp only [Rq.agg, Rq.cells] at *
  have HS := Lib.hid hs; clear hs
  have d1 : decide (id < 0) = false := by simp at h1 ⊢; omega
  have d2 : decide (n ≤ id) = false := by simp at h2 ⊢; omega
  have H3 := Lib.hid h3; clear h3
  have H4 := Lib.hid h4; clear h4
  have g1 : 0 ≤ id := by simpa using h1
  have g2 : id < n := by simpa using h2
  have E1 := Lib.hid h1; clear h1
  have E2 := Lib.hid h2; clear h2
  obtain ⟨lv0, elv0⟩ : ∃ m, voted.length = m := ⟨_, rfl⟩
  obtain ⟨lp0, elp0⟩ : ∃ m, pr.length = m := ⟨_, rfl⟩
  obtain ⟨lo0, elo0⟩ : ∃ m, vo.length = m := ⟨_, rfl⟩
  obtain ⟨lr0, elr0⟩ : ∃ m, re.length = m := ⟨_, rfl⟩
  obtain ⟨ld0, eld0⟩ : ∃ m, ds.length = m := ⟨_, rfl⟩
  obtain ⟨lh0, elh0⟩ : ∃ m, hs.length = m := ⟨_, rfl⟩
  simp only [elv0, elp0, elo0, elr0, eld0, elh0]
  clear elv0 elp0 elo0 elr0 eld0 elh0 rv rp ro rr rd rh fv fp fo fr fd fh
  have ka := Blk.new w 40 #[.int .i64 n, .int .i64 id, .int .i64 own, .int .i64 view, .int .i64 left, .slice Av lv0 cv, .int .i64 lv, .int .i64 lx, .int .i64 dn, .slice Ap lp0 cp, .slice Ao lo0 co, .slice Ar lr0 cr, .slice Ad ld0 cd, .slice Ah lh0 ch]
  have C0 := fun x => lat_blk ka x
  have HB := Lib.hid (fun (x : Lat (w.alloc (.cells #[.int .i64 n, .int .i64 id, .int .i64 own, .int .i64 view, .int .i64 left, .slice Av lv0 cv, .int .i64 lv, .int .i64 lx, .int .i64 dn, .slice Ap lp0 cp, .slice Ao lo0 co, .slice Ar lr0 cr, .slice Ad ld0 cd, .slice Ah lh0 ch] 40))) => on_ (up_ (Below.refl w.heap.size w) _) x.below)
  go_enter Try.func36, Try.ntmps36
  go_wp2
  refine wp_region_lat (by kernel_rfl) (by kernel_rfl) ?_
  repeat (go_big_quiet_step ((first | (go_at_call 70; exact lat_same _ (specSize_is n true HS.out _)) | (go_at_call 71; exact lat_same _ (specVal_is own true H3.out _)) | (go_at_call 72; exact lat_same _ (specView_is view false H4.out _)))))
  refine wpQuiet_nil ?_
  rintro w3 ⟨⟨_, hb3⟩, rfl⟩
  have hB3 := HB.out ⟨_, hb3⟩
  clear C0 ka
  go_wp2
  go_ret
  exact ⟨rfl, hB3⟩

set_option maxHeartbeats 3200000 in
theorem specRepOk_f5 (q : Rq) (w : World) (hr : RdQ w w.heap.size q) (hf : FewQ q) (hs : sizeB q.n = true) (h1 : decide (0 ≤ q.id) = true) (h2 : decide (q.id < q.n) = true) (h3 : valOkB q.own = true) (h4 : viewOkB q.view = true) (h5 : decide (1 ≤ q.left) = false) :
    Calls Try.prog 36 #[q.agg] w fun e w' => e = .returned (.bool false) ∧ Below w.heap.size w w' := by
  obtain ⟨n, id, own, view, left, voted, lv, lx, dn, pr, vo, re, ds, hs, Av, Ap, Ao, Ar, Ad, Ah, cv, cp, co, cr, cd, ch⟩ := q
  obtain ⟨rv, rp, ro, rr, rd, rh⟩ := hr
  obtain ⟨fv, fp, fo, fr, fd, fh⟩ := hf
  simp only [Rq.agg, Rq.cells] at *
  have hb : 0 ≤ view ∧ view ≤ 9 := by simpa [viewOkB] using h4
  obtain ⟨hv0, hv9⟩ := hb
  obtain ⟨y, hy⟩ : ∃ y, 3 + view = y := ⟨_, rfl⟩
  obtain ⟨u, hu⟩ : ∃ u, view + 1 = u := ⟨_, rfl⟩
  have hw : IntKind.i64.wrap (view + 1) = u := by rw [← hu]; exact IntWalk.i64_in _ (by omega)
  have hyb : 3 ≤ y ∧ y ≤ 12 := by omega
  obtain ⟨hyb1, hyb2⟩ := hyb
  have HY := Lib.hid hy; have HU := Lib.hid hu; clear hy hu
  have HS := Lib.hid hs; clear hs
  have d1 : decide (id < 0) = false := by simp at h1 ⊢; omega
  have d2 : decide (n ≤ id) = false := by simp at h2 ⊢; omega
  have H3 := Lib.hid h3; clear h3
  have H4 := Lib.hid h4; clear h4
  have d3 : decide (left < 1) = true := by simp at h5 ⊢; omega
  have g1 : 0 ≤ id := by simpa using h1
  have g2 : id < n := by simpa using h2
  have E1 := Lib.hid h1; clear h1
  have E2 := Lib.hid h2; clear h2
  have E5 := Lib.hid h5; clear h5
  obtain ⟨lv0, elv0⟩ : ∃ m, voted.length = m := ⟨_, rfl⟩
  obtain ⟨lp0, elp0⟩ : ∃ m, pr.length = m := ⟨_, rfl⟩
  obtain ⟨lo0, elo0⟩ : ∃ m, vo.length = m := ⟨_, rfl⟩
  obtain ⟨lr0, elr0⟩ : ∃ m, re.length = m := ⟨_, rfl⟩
  obtain ⟨ld0, eld0⟩ : ∃ m, ds.length = m := ⟨_, rfl⟩
  obtain ⟨lh0, elh0⟩ : ∃ m, hs.length = m := ⟨_, rfl⟩
  simp only [elv0, elp0, elo0, elr0, eld0, elh0]
  clear elv0 elp0 elo0 elr0 eld0 elh0 rv rp ro rr rd rh fv fp fo fr fd fh
  have ka := Blk.new w 40 #[.int .i64 n, .int .i64 id, .int .i64 own, .int .i64 view, .int .i64 left, .slice Av lv0 cv, .int .i64 lv, .int .i64 lx, .int .i64 dn, .slice Ap lp0 cp, .slice Ao lo0 co, .slice Ar lr0 cr, .slice Ad ld0 cd, .slice Ah lh0 ch]
  have C0 := fun x => lat_blk ka x
  have HB := Lib.hid (fun (x : Lat (w.alloc (.cells #[.int .i64 n, .int .i64 id, .int .i64 own, .int .i64 view, .int .i64 left, .slice Av lv0 cv, .int .i64 lv, .int .i64 lx, .int .i64 dn, .slice Ap lp0 cp, .slice Ao lo0 co, .slice Ar lr0 cr, .slice Ad ld0 cd, .slice Ah lh0 ch] 40))) => on_ (up_ (Below.refl w.heap.size w) _) x.below)
  go_enter Try.func36, Try.ntmps36
  go_wp2
  refine wp_region_lat (by kernel_rfl) (by kernel_rfl) ?_
  repeat (go_big_quiet_step ((first | (go_at_call 70; exact lat_same _ (specSize_is n true HS.out _)) | (go_at_call 71; exact lat_same _ (specVal_is own true H3.out _)) | (go_at_call 72; exact lat_same _ (specView_is view true H4.out _)))))
  refine wpQuiet_nil ?_
  rintro w3 ⟨⟨_, hb3⟩, rfl⟩
  have hB3 := HB.out ⟨_, hb3⟩
  clear C0 ka
  go_wp2
  go_ret
  exact ⟨rfl, hB3⟩

set_option maxHeartbeats 3200000 in
theorem specRepOk_f6 (q : Rq) (w : World) (hr : RdQ w w.heap.size q) (hf : FewQ q) (hs : sizeB q.n = true) (h1 : decide (0 ≤ q.id) = true) (h2 : decide (q.id < q.n) = true) (h3 : valOkB q.own = true) (h4 : viewOkB q.view = true) (h5 : decide (1 ≤ q.left) = true) (h6 : decide (q.left ≤ 3 + q.view) = false) :
    Calls Try.prog 36 #[q.agg] w fun e w' => e = .returned (.bool false) ∧ Below w.heap.size w w' := by
  obtain ⟨n, id, own, view, left, voted, lv, lx, dn, pr, vo, re, ds, hs, Av, Ap, Ao, Ar, Ad, Ah, cv, cp, co, cr, cd, ch⟩ := q
  obtain ⟨rv, rp, ro, rr, rd, rh⟩ := hr
  obtain ⟨fv, fp, fo, fr, fd, fh⟩ := hf
  simp only [Rq.agg, Rq.cells] at *
  have hb : 0 ≤ view ∧ view ≤ 9 := by simpa [viewOkB] using h4
  obtain ⟨hv0, hv9⟩ := hb
  obtain ⟨y, hy⟩ : ∃ y, 3 + view = y := ⟨_, rfl⟩
  obtain ⟨u, hu⟩ : ∃ u, view + 1 = u := ⟨_, rfl⟩
  have hw : IntKind.i64.wrap (view + 1) = u := by rw [← hu]; exact IntWalk.i64_in _ (by omega)
  have hyb : 3 ≤ y ∧ y ≤ 12 := by omega
  obtain ⟨hyb1, hyb2⟩ := hyb
  rw [hy] at h6
  have HY := Lib.hid hy; have HU := Lib.hid hu; clear hy hu
  have HS := Lib.hid hs; clear hs
  have d1 : decide (id < 0) = false := by simp at h1 ⊢; omega
  have d2 : decide (n ≤ id) = false := by simp at h2 ⊢; omega
  have H3 := Lib.hid h3; clear h3
  have H4 := Lib.hid h4; clear h4
  have d3 : decide (left < 1) = false := by simp at h5 ⊢; omega
  have d4 : decide (y < left) = true := by simp at h6 ⊢; omega
  have g1 : 0 ≤ id := by simpa using h1
  have g2 : id < n := by simpa using h2
  have E1 := Lib.hid h1; clear h1
  have E2 := Lib.hid h2; clear h2
  have E5 := Lib.hid h5; clear h5
  have E6 := Lib.hid h6; clear h6
  obtain ⟨lv0, elv0⟩ : ∃ m, voted.length = m := ⟨_, rfl⟩
  obtain ⟨lp0, elp0⟩ : ∃ m, pr.length = m := ⟨_, rfl⟩
  obtain ⟨lo0, elo0⟩ : ∃ m, vo.length = m := ⟨_, rfl⟩
  obtain ⟨lr0, elr0⟩ : ∃ m, re.length = m := ⟨_, rfl⟩
  obtain ⟨ld0, eld0⟩ : ∃ m, ds.length = m := ⟨_, rfl⟩
  obtain ⟨lh0, elh0⟩ : ∃ m, hs.length = m := ⟨_, rfl⟩
  simp only [elv0, elp0, elo0, elr0, eld0, elh0]
  clear elv0 elp0 elo0 elr0 eld0 elh0 rv rp ro rr rd rh fv fp fo fr fd fh
  have ka := Blk.new w 40 #[.int .i64 n, .int .i64 id, .int .i64 own, .int .i64 view, .int .i64 left, .slice Av lv0 cv, .int .i64 lv, .int .i64 lx, .int .i64 dn, .slice Ap lp0 cp, .slice Ao lo0 co, .slice Ar lr0 cr, .slice Ad ld0 cd, .slice Ah lh0 ch]
  have C0 := fun x => lat_blk ka x
  have HB := Lib.hid (fun (x : Lat (w.alloc (.cells #[.int .i64 n, .int .i64 id, .int .i64 own, .int .i64 view, .int .i64 left, .slice Av lv0 cv, .int .i64 lv, .int .i64 lx, .int .i64 dn, .slice Ap lp0 cp, .slice Ao lo0 co, .slice Ar lr0 cr, .slice Ad ld0 cd, .slice Ah lh0 ch] 40))) => on_ (up_ (Below.refl w.heap.size w) _) x.below)
  go_enter Try.func36, Try.ntmps36
  go_wp2
  refine wp_region_lat (by kernel_rfl) (by kernel_rfl) ?_
  repeat (go_big_quiet_step ((first | (go_at_call 70; exact lat_same _ (specSize_is n true HS.out _)) | (go_at_call 71; exact lat_same _ (specVal_is own true H3.out _)) | (go_at_call 72; exact lat_same _ (specView_is view true H4.out _)) | (go_at_call 73; exact lat_same _ (wait_is view y H4.out HY.out _)))))
  refine wpQuiet_nil ?_
  rintro w3 ⟨⟨_, hb3⟩, rfl⟩
  have hB3 := HB.out ⟨_, hb3⟩
  clear C0 ka
  go_wp2
  go_ret
  exact ⟨rfl, hB3⟩

set_option maxHeartbeats 3200000 in
theorem specRepOk_f7 (q : Rq) (w : World) (hr : RdQ w w.heap.size q) (hf : FewQ q) (hs : sizeB q.n = true) (h1 : decide (0 ≤ q.id) = true) (h2 : decide (q.id < q.n) = true) (h3 : valOkB q.own = true) (h4 : viewOkB q.view = true) (h5 : decide (1 ≤ q.left) = true) (h6 : decide (q.left ≤ 3 + q.view) = true) (h7 : votesOkB q.voted (q.view + 1) = false) :
    Calls Try.prog 36 #[q.agg] w fun e w' => e = .returned (.bool false) ∧ Below w.heap.size w w' := by
  obtain ⟨n, id, own, view, left, voted, lv, lx, dn, pr, vo, re, ds, hs, Av, Ap, Ao, Ar, Ad, Ah, cv, cp, co, cr, cd, ch⟩ := q
  obtain ⟨rv, rp, ro, rr, rd, rh⟩ := hr
  obtain ⟨fv, fp, fo, fr, fd, fh⟩ := hf
  simp only [Rq.agg, Rq.cells] at *
  have hb : 0 ≤ view ∧ view ≤ 9 := by simpa [viewOkB] using h4
  obtain ⟨hv0, hv9⟩ := hb
  obtain ⟨y, hy⟩ : ∃ y, 3 + view = y := ⟨_, rfl⟩
  obtain ⟨u, hu⟩ : ∃ u, view + 1 = u := ⟨_, rfl⟩
  have hw : IntKind.i64.wrap (view + 1) = u := by rw [← hu]; exact IntWalk.i64_in _ (by omega)
  have hyb : 3 ≤ y ∧ y ≤ 12 := by omega
  obtain ⟨hyb1, hyb2⟩ := hyb
  rw [hy] at h6
  rw [hu] at h7
  have HY := Lib.hid hy; have HU := Lib.hid hu; clear hy hu
  have HS := Lib.hid hs; clear hs
  have d1 : decide (id < 0) = false := by simp at h1 ⊢; omega
  have d2 : decide (n ≤ id) = false := by simp at h2 ⊢; omega
  have H3 := Lib.hid h3; clear h3
  have H4 := Lib.hid h4; clear h4
  have d3 : decide (left < 1) = false := by simp at h5 ⊢; omega
  have d4 : decide (y < left) = false := by simp at h6 ⊢; omega
  have H7 := Lib.hid h7; clear h7
  have HV := Lib.hid (fun (W : World) (h : Below w.heap.size w W) => specVotesOk_is false Av cv voted u H7.out W ((rv.below h).more h.size) fv)
  have g1 : 0 ≤ id := by simpa using h1
  have g2 : id < n := by simpa using h2
  have E1 := Lib.hid h1; clear h1
  have E2 := Lib.hid h2; clear h2
  have E5 := Lib.hid h5; clear h5
  have E6 := Lib.hid h6; clear h6
  obtain ⟨lv0, elv0⟩ : ∃ m, voted.length = m := ⟨_, rfl⟩
  obtain ⟨lp0, elp0⟩ : ∃ m, pr.length = m := ⟨_, rfl⟩
  obtain ⟨lo0, elo0⟩ : ∃ m, vo.length = m := ⟨_, rfl⟩
  obtain ⟨lr0, elr0⟩ : ∃ m, re.length = m := ⟨_, rfl⟩
  obtain ⟨ld0, eld0⟩ : ∃ m, ds.length = m := ⟨_, rfl⟩
  obtain ⟨lh0, elh0⟩ : ∃ m, hs.length = m := ⟨_, rfl⟩
  simp only [elv0, elp0, elo0, elr0, eld0, elh0] at HV ⊢
  clear elv0 elp0 elo0 elr0 eld0 elh0 rv rp ro rr rd rh fv fp fo fr fd fh
  have ka := Blk.new w 40 #[.int .i64 n, .int .i64 id, .int .i64 own, .int .i64 view, .int .i64 left, .slice Av lv0 cv, .int .i64 lv, .int .i64 lx, .int .i64 dn, .slice Ap lp0 cp, .slice Ao lo0 co, .slice Ar lr0 cr, .slice Ad ld0 cd, .slice Ah lh0 ch]
  have C0 := fun x => lat_blk ka x
  have HB := Lib.hid (fun (x : Lat (w.alloc (.cells #[.int .i64 n, .int .i64 id, .int .i64 own, .int .i64 view, .int .i64 left, .slice Av lv0 cv, .int .i64 lv, .int .i64 lx, .int .i64 dn, .slice Ap lp0 cp, .slice Ao lo0 co, .slice Ar lr0 cr, .slice Ad ld0 cd, .slice Ah lh0 ch] 40))) => on_ (up_ (Below.refl w.heap.size w) _) x.below)
  go_enter Try.func36, Try.ntmps36
  go_wp2
  refine wp_region_lat (by kernel_rfl) (by kernel_rfl) ?_
  repeat (go_big_quiet_step ((first | (go_at_call 70; exact lat_same _ (specSize_is n true HS.out _)) | (go_at_call 71; exact lat_same _ (specVal_is own true H3.out _)) | (go_at_call 72; exact lat_same _ (specView_is view true H4.out _)) | (go_at_call 73; exact lat_same _ (wait_is view y H4.out HY.out _)) | (go_at_call 74; exact lat_call _ (HV.out _ (HB.out _))))))
  refine wpQuiet_nil ?_
  rintro w3 ⟨⟨_, hb3⟩, rfl⟩
  have hB3 := HB.out ⟨_, hb3⟩
  clear C0 ka
  go_wp2
  go_ret
  exact ⟨rfl, hB3⟩

set_option maxHeartbeats 3200000 in
theorem specRepOk_f8 (q : Rq) (w : World) (hr : RdQ w w.heap.size q) (hf : FewQ q) (hs : sizeB q.n = true) (h1 : decide (0 ≤ q.id) = true) (h2 : decide (q.id < q.n) = true) (h3 : valOkB q.own = true) (h4 : viewOkB q.view = true) (h5 : decide (1 ≤ q.left) = true) (h6 : decide (q.left ≤ 3 + q.view) = true) (h7 : votesOkB q.voted (q.view + 1) = true) (h8 : decide (0 ≤ q.dn) = false) :
    Calls Try.prog 36 #[q.agg] w fun e w' => e = .returned (.bool false) ∧ Below w.heap.size w w' := by
  obtain ⟨n, id, own, view, left, voted, lv, lx, dn, pr, vo, re, ds, hs, Av, Ap, Ao, Ar, Ad, Ah, cv, cp, co, cr, cd, ch⟩ := q
  obtain ⟨rv, rp, ro, rr, rd, rh⟩ := hr
  obtain ⟨fv, fp, fo, fr, fd, fh⟩ := hf
  simp only [Rq.agg, Rq.cells] at *
  have hb : 0 ≤ view ∧ view ≤ 9 := by simpa [viewOkB] using h4
  obtain ⟨hv0, hv9⟩ := hb
  obtain ⟨y, hy⟩ : ∃ y, 3 + view = y := ⟨_, rfl⟩
  obtain ⟨u, hu⟩ : ∃ u, view + 1 = u := ⟨_, rfl⟩
  have hw : IntKind.i64.wrap (view + 1) = u := by rw [← hu]; exact IntWalk.i64_in _ (by omega)
  have hyb : 3 ≤ y ∧ y ≤ 12 := by omega
  obtain ⟨hyb1, hyb2⟩ := hyb
  rw [hy] at h6
  rw [hu] at h7
  have HY := Lib.hid hy; have HU := Lib.hid hu; clear hy hu
  have HS := Lib.hid hs; clear hs
  have d1 : decide (id < 0) = false := by simp at h1 ⊢; omega
  have d2 : decide (n ≤ id) = false := by simp at h2 ⊢; omega
  have H3 := Lib.hid h3; clear h3
  have H4 := Lib.hid h4; clear h4
  have d3 : decide (left < 1) = false := by simp at h5 ⊢; omega
  have d4 : decide (y < left) = false := by simp at h6 ⊢; omega
  have H7 := Lib.hid h7; clear h7
  have HV := Lib.hid (fun (W : World) (h : Below w.heap.size w W) => specVotesOk_is true Av cv voted u H7.out W ((rv.below h).more h.size) fv)
  have d5 : decide (dn < 0) = true := by simp at h8 ⊢; omega
  have g1 : 0 ≤ id := by simpa using h1
  have g2 : id < n := by simpa using h2
  have E1 := Lib.hid h1; clear h1
  have E2 := Lib.hid h2; clear h2
  have E5 := Lib.hid h5; clear h5
  have E6 := Lib.hid h6; clear h6
  have E8 := Lib.hid h8; clear h8
  obtain ⟨lv0, elv0⟩ : ∃ m, voted.length = m := ⟨_, rfl⟩
  obtain ⟨lp0, elp0⟩ : ∃ m, pr.length = m := ⟨_, rfl⟩
  obtain ⟨lo0, elo0⟩ : ∃ m, vo.length = m := ⟨_, rfl⟩
  obtain ⟨lr0, elr0⟩ : ∃ m, re.length = m := ⟨_, rfl⟩
  obtain ⟨ld0, eld0⟩ : ∃ m, ds.length = m := ⟨_, rfl⟩
  obtain ⟨lh0, elh0⟩ : ∃ m, hs.length = m := ⟨_, rfl⟩
  simp only [elv0, elp0, elo0, elr0, eld0, elh0] at HV ⊢
  clear elv0 elp0 elo0 elr0 eld0 elh0 rv rp ro rr rd rh fv fp fo fr fd fh
  have ka := Blk.new w 40 #[.int .i64 n, .int .i64 id, .int .i64 own, .int .i64 view, .int .i64 left, .slice Av lv0 cv, .int .i64 lv, .int .i64 lx, .int .i64 dn, .slice Ap lp0 cp, .slice Ao lo0 co, .slice Ar lr0 cr, .slice Ad ld0 cd, .slice Ah lh0 ch]
  have C0 := fun x => lat_blk ka x
  have HB := Lib.hid (fun (x : Lat (w.alloc (.cells #[.int .i64 n, .int .i64 id, .int .i64 own, .int .i64 view, .int .i64 left, .slice Av lv0 cv, .int .i64 lv, .int .i64 lx, .int .i64 dn, .slice Ap lp0 cp, .slice Ao lo0 co, .slice Ar lr0 cr, .slice Ad ld0 cd, .slice Ah lh0 ch] 40))) => on_ (up_ (Below.refl w.heap.size w) _) x.below)
  go_enter Try.func36, Try.ntmps36
  go_wp2
  refine wp_region_lat (by kernel_rfl) (by kernel_rfl) ?_
  repeat (go_big_quiet_step ((first | (go_at_call 70; exact lat_same _ (specSize_is n true HS.out _)) | (go_at_call 71; exact lat_same _ (specVal_is own true H3.out _)) | (go_at_call 72; exact lat_same _ (specView_is view true H4.out _)) | (go_at_call 73; exact lat_same _ (wait_is view y H4.out HY.out _)) | (go_at_call 74; exact lat_call _ (HV.out _ (HB.out _))))))
  refine wpQuiet_nil ?_
  rintro w3 ⟨⟨_, hb3⟩, rfl⟩
  have hB3 := HB.out ⟨_, hb3⟩
  clear C0 ka
  go_wp2
  go_ret
  exact ⟨rfl, hB3⟩

set_option maxHeartbeats 3200000 in
theorem specRepOk_f9 (q : Rq) (w : World) (hr : RdQ w w.heap.size q) (hf : FewQ q) (hs : sizeB q.n = true) (h1 : decide (0 ≤ q.id) = true) (h2 : decide (q.id < q.n) = true) (h3 : valOkB q.own = true) (h4 : viewOkB q.view = true) (h5 : decide (1 ≤ q.left) = true) (h6 : decide (q.left ≤ 3 + q.view) = true) (h7 : votesOkB q.voted (q.view + 1) = true) (h8 : decide (0 ≤ q.dn) = true) (h9 : decide (q.dn ≤ 60) = false) :
    Calls Try.prog 36 #[q.agg] w fun e w' => e = .returned (.bool false) ∧ Below w.heap.size w w' := by
  obtain ⟨n, id, own, view, left, voted, lv, lx, dn, pr, vo, re, ds, hs, Av, Ap, Ao, Ar, Ad, Ah, cv, cp, co, cr, cd, ch⟩ := q
  obtain ⟨rv, rp, ro, rr, rd, rh⟩ := hr
  obtain ⟨fv, fp, fo, fr, fd, fh⟩ := hf
  simp only [Rq.agg, Rq.cells] at *
  have hb : 0 ≤ view ∧ view ≤ 9 := by simpa [viewOkB] using h4
  obtain ⟨hv0, hv9⟩ := hb
  obtain ⟨y, hy⟩ : ∃ y, 3 + view = y := ⟨_, rfl⟩
  obtain ⟨u, hu⟩ : ∃ u, view + 1 = u := ⟨_, rfl⟩
  have hw : IntKind.i64.wrap (view + 1) = u := by rw [← hu]; exact IntWalk.i64_in _ (by omega)
  have hyb : 3 ≤ y ∧ y ≤ 12 := by omega
  obtain ⟨hyb1, hyb2⟩ := hyb
  rw [hy] at h6
  rw [hu] at h7
  have HY := Lib.hid hy; have HU := Lib.hid hu; clear hy hu
  have HS := Lib.hid hs; clear hs
  have d1 : decide (id < 0) = false := by simp at h1 ⊢; omega
  have d2 : decide (n ≤ id) = false := by simp at h2 ⊢; omega
  have H3 := Lib.hid h3; clear h3
  have H4 := Lib.hid h4; clear h4
  have d3 : decide (left < 1) = false := by simp at h5 ⊢; omega
  have d4 : decide (y < left) = false := by simp at h6 ⊢; omega
  have H7 := Lib.hid h7; clear h7
  have HV := Lib.hid (fun (W : World) (h : Below w.heap.size w W) => specVotesOk_is true Av cv voted u H7.out W ((rv.below h).more h.size) fv)
  have d5 : decide (dn < 0) = false := by simp at h8 ⊢; omega
  have d6 : decide (60 < dn) = true := by simp at h9 ⊢; omega
  have g1 : 0 ≤ id := by simpa using h1
  have g2 : id < n := by simpa using h2
  have E1 := Lib.hid h1; clear h1
  have E2 := Lib.hid h2; clear h2
  have E5 := Lib.hid h5; clear h5
  have E6 := Lib.hid h6; clear h6
  have E8 := Lib.hid h8; clear h8
  have E9 := Lib.hid h9; clear h9
  obtain ⟨lv0, elv0⟩ : ∃ m, voted.length = m := ⟨_, rfl⟩
  obtain ⟨lp0, elp0⟩ : ∃ m, pr.length = m := ⟨_, rfl⟩
  obtain ⟨lo0, elo0⟩ : ∃ m, vo.length = m := ⟨_, rfl⟩
  obtain ⟨lr0, elr0⟩ : ∃ m, re.length = m := ⟨_, rfl⟩
  obtain ⟨ld0, eld0⟩ : ∃ m, ds.length = m := ⟨_, rfl⟩
  obtain ⟨lh0, elh0⟩ : ∃ m, hs.length = m := ⟨_, rfl⟩
  simp only [elv0, elp0, elo0, elr0, eld0, elh0] at HV ⊢
  clear elv0 elp0 elo0 elr0 eld0 elh0 rv rp ro rr rd rh fv fp fo fr fd fh
  have ka := Blk.new w 40 #[.int .i64 n, .int .i64 id, .int .i64 own, .int .i64 view, .int .i64 left, .slice Av lv0 cv, .int .i64 lv, .int .i64 lx, .int .i64 dn, .slice Ap lp0 cp, .slice Ao lo0 co, .slice Ar lr0 cr, .slice Ad ld0 cd, .slice Ah lh0 ch]
  have C0 := fun x => lat_blk ka x
  have HB := Lib.hid (fun (x : Lat (w.alloc (.cells #[.int .i64 n, .int .i64 id, .int .i64 own, .int .i64 view, .int .i64 left, .slice Av lv0 cv, .int .i64 lv, .int .i64 lx, .int .i64 dn, .slice Ap lp0 cp, .slice Ao lo0 co, .slice Ar lr0 cr, .slice Ad ld0 cd, .slice Ah lh0 ch] 40))) => on_ (up_ (Below.refl w.heap.size w) _) x.below)
  go_enter Try.func36, Try.ntmps36
  go_wp2
  refine wp_region_lat (by kernel_rfl) (by kernel_rfl) ?_
  repeat (go_big_quiet_step ((first | (go_at_call 70; exact lat_same _ (specSize_is n true HS.out _)) | (go_at_call 71; exact lat_same _ (specVal_is own true H3.out _)) | (go_at_call 72; exact lat_same _ (specView_is view true H4.out _)) | (go_at_call 73; exact lat_same _ (wait_is view y H4.out HY.out _)) | (go_at_call 74; exact lat_call _ (HV.out _ (HB.out _))))))
  refine wpQuiet_nil ?_
  rintro w3 ⟨⟨_, hb3⟩, rfl⟩
  have hB3 := HB.out ⟨_, hb3⟩
  clear C0 ka
  go_wp2
  go_ret
  exact ⟨rfl, hB3⟩

end Go.Proofs.Ytfdfjmibjnmhpaa.V
