/-
  Proved here: for whatever state of a replica, JoinView of the program answers as JoinView of the model, and the state reads afterwards as before. No condition.
-/
import Derived.Test.YtfdfjmibjnmhpaaRows
import Derived.Test.YtfdfjmibjnmhpaaK01
import Derived.Test.YtfdfjmibjnmhpaaK04
import Derived.Test.YtfdfjmibjnmhpaaK05
import Derived.Test.YtfdfjmibjnmhpaaK19
import Derived.Deep.RegionHeld3
set_option linter.unusedVariables false
set_option maxRecDepth 100000
namespace Go.Proofs.Ytfdfjmibjnmhpaa.fnExactJoinView
open Go.RowKit Go.ChangeShapes Go.WideShapes Go.Proofs.Ytfdfjmibjnmhpaa.B Go.Proofs.Ytfdfjmibjnmhpaa.V
theorem dr_ {w : World} {q : Rq} (h : RdQ w w.heap.size q) : RdQ w.drew w.drew.heap.size q := ⟨h.v, h.p, h.o, h.r, h.d, h.h⟩

set_option maxHeartbeats 3200000 in
theorem walk0 (q : Rq) (r0 : Int) (w : World) (hL : LensQ q) (hr : RdQ w w.heap.size q)
    (hsp : FewQ q → ∀ (p : Rq) (W : World), p.dat = q.dat → FewQ p → RdQ W W.heap.size p → Calls Try.prog 9 #[p.agg] W fun e w' => e = .returned (.int .i64 r0) ∧ Below W.heap.size W w')
    (him : FewQ q → ∀ (p : Rq) (W : World), p.dat = q.dat → FewQ p → RdQ W W.heap.size p → Calls Try.prog 11 #[p.agg] W fun e w' => e = .returned (.int .i64 r0) ∧ Below W.heap.size W w') :
    Calls Try.prog 3 #[q.agg] w fun e w' => e = .returned (.bool true) ∧ Below w.heap.size w w' := by
  have hsz := szRep_any q 1048576 (w.alloc (.cells q.cells 30)) (hr.up (.cells q.cells 30)).h hL (by omega) (by omega)
  by_cases hn : (1048576 : Int) < (tot q : Int)
  · rw [if_pos hn] at hsz
    have H1 := Lib.hid hsz
    clear hsp him hsz hr hL hn
    have hB := up_ (Below.refl w.heap.size w) (.cells q.cells 30)
    have ka := Blk.new w 30 q.cells
    obtain ⟨n, id, own, view, left, voted, lv, lx, dn, pr, vo, re, ds, hs, Av, Ap, Ao, Ar, Ad, Ah, cv, cp, co, cr, cd, ch⟩ := q
    simp only [Rq.agg, Rq.cells] at *
    have ra := ka.rule
    go_enter Try.func3, Try.ntmps3
    go_wp2_with fail
    refine H1.out.mono ?_
    rintro e w1 ⟨rfl, hb1⟩
    have hB1 := on_ hB hb1
    clear ra ka hB hb1
    go_wp2
    go_ret
    exact ⟨rfl, hB1⟩
  · rw [if_neg hn] at hsz
    have hfew : FewQ q := fewQ_of (by omega)
    obtain ⟨y, hy⟩ : ∃ y : Int, 1048576 - (tot q : Int) = y := ⟨_, rfl⟩
    rw [hy] at hsz
    have hy0 : 0 ≤ y := by omega
    have hy1 : ¬ y < 0 := by omega
    have hy2 : y ≤ 1048576 := by omega
    clear hy
    have H1 := Lib.hid hsz; clear hsz hn hL
    have HSP := Lib.hid (hsp hfew); have HIM := Lib.hid (him hfew); clear hsp him
    have HT := Lib.hid (fun (W : World) (h : RdQ W W.heap.size q) => toRep_any q W h hfew)
    have HE := Lib.hid (fun (a b : Rq) (ha : a.dat = q.dat) (hb : b.dat = q.dat) (W : World) (h1 : RdQ W W.heap.size a) (h2 : RdQ W W.heap.size b) => eqRep_same a b (hb.trans ha.symm) W h1 h2 (hfew.same ha))
    have HF := Lib.hid (fun (a : Rq) (ha : a.dat = q.dat) => hfew.same ha)
    have HR := Lib.hid (hr.up (.cells q.cells 30))
    have HB := Lib.hid (up_ (Below.refl w.heap.size w) (.cells q.cells 30))
    have ka := Blk.new w 30 q.cells
    clear hfew hr
    have hne : ∀ i : Int, (i != i) = false := fun i => by simp
    have hnq : ∀ i : Bool, (i != i) = false := fun i => by simp
    obtain ⟨V, hV⟩ : ∃ V, q = V := ⟨_, rfl⟩
    obtain ⟨n, id, own, view, left, voted, lv, lx, dn, pr, vo, re, ds, hs, Av, Ap, Ao, Ar, Ad, Ah, cv, cp, co, cr, cd, ch⟩ := q
    simp only [Rq.agg, Rq.cells] at *
    have ra := ka.rule
    go_enter Try.func3, Try.ntmps3
    go_wp2_with fail
    refine H1.out.mono ?_
    rintro e w1 ⟨rfl, hb⟩
    have HR' := Lib.hid (HR.out.on hb); have HB' := Lib.hid (on_ HB.out hb); have ka' := ka.on hb
    clear ra hb HR HB H1 ka; have HR := HR'; have HB := HB'; have ka := ka'; clear HR' HB' ka'; have ra := ka.rule
    go_wp2_with fail
    refine (HT.out w1 HR.out).mono ?_
    rintro e w2 ⟨⟨n2, id2, own2, view2, left2, voted2, lv2, lx2, dn2, pr2, vo2, re2, ds2, hs2, Av2, Ap2, Ao2, Ar2, Ad2, Ah2, cv2, cp2, co2, cr2, cd2, ch2⟩, rfl, hd, hrd, hb⟩
    have HD2 := Lib.hid hd; have HQ2 := Lib.hid hrd
    have HR' := Lib.hid (HR.out.on hb); have HB' := Lib.hid (on_ HB.out hb); have ka' := ka.on hb
    clear ra hb HR HB ka hd hrd; have HR := HR'; have HB := HB'; have ka := ka'; clear HR' HB' ka'; have ra := ka.rule
    dsimp only
    go_wp2_with fail
    refine (HSP.out _ w2 HD2.out (HF.out _ HD2.out) HQ2.out).mono ?_
    rintro e w3 ⟨rfl, hb⟩
    have HR' := Lib.hid (HR.out.on hb); have HB' := Lib.hid (on_ HB.out hb); have ka' := ka.on hb
    clear ra hb HR HB ka HQ2 HD2; have HR := HR'; have HB := HB'; have ka := ka'; clear HR' HB' ka'; have ra := ka.rule
    go_wp2_with fail
    refine (HT.out w3 HR.out).mono ?_
    rintro e w4 ⟨⟨n4, id4, own4, view4, left4, voted4, lv4, lx4, dn4, pr4, vo4, re4, ds4, hs4, Av4, Ap4, Ao4, Ar4, Ad4, Ah4, cv4, cp4, co4, cr4, cd4, ch4⟩, rfl, hd, hrd, hb⟩
    have HD4 := Lib.hid hd; have HQ4 := Lib.hid hrd
    have HR' := Lib.hid (HR.out.on hb); have HB' := Lib.hid (on_ HB.out hb); have ka' := ka.on hb
    clear ra hb HR HB ka hd hrd; have HR := HR'; have HB := HB'; have ka := ka'; clear HR' HB' ka'; have ra := ka.rule
    dsimp only
    go_wp2_with fail
    have kx := Blk.new w4 40 #[.int .i64 n4, .int .i64 id4, .int .i64 own4, .int .i64 view4, .int .i64 left4, .slice Av4 voted4.length cv4, .int .i64 lv4, .int .i64 lx4, .int .i64 dn4, .slice Ap4 pr4.length cp4, .slice Ao4 vo4.length co4, .slice Ar4 re4.length cr4, .slice Ad4 ds4.length cd4, .slice Ah4 hs4.length ch4]
    have HR' := Lib.hid (HR.out.up (.cells #[.int .i64 n4, .int .i64 id4, .int .i64 own4, .int .i64 view4, .int .i64 left4, .slice Av4 voted4.length cv4, .int .i64 lv4, .int .i64 lx4, .int .i64 dn4, .slice Ap4 pr4.length cp4, .slice Ao4 vo4.length co4, .slice Ar4 re4.length cr4, .slice Ad4 ds4.length cd4, .slice Ah4 hs4.length ch4] 40)); have HB' := Lib.hid (up_ HB.out (.cells #[.int .i64 n4, .int .i64 id4, .int .i64 own4, .int .i64 view4, .int .i64 left4, .slice Av4 voted4.length cv4, .int .i64 lv4, .int .i64 lx4, .int .i64 dn4, .slice Ap4 pr4.length cp4, .slice Ao4 vo4.length co4, .slice Ar4 re4.length cr4, .slice Ad4 ds4.length cd4, .slice Ah4 hs4.length ch4] 40)); have ka' := ka.up (.cells #[.int .i64 n4, .int .i64 id4, .int .i64 own4, .int .i64 view4, .int .i64 left4, .slice Av4 voted4.length cv4, .int .i64 lv4, .int .i64 lx4, .int .i64 dn4, .slice Ap4 pr4.length cp4, .slice Ao4 vo4.length co4, .slice Ar4 re4.length cr4, .slice Ad4 ds4.length cd4, .slice Ah4 hs4.length ch4] 40); have HQ' := Lib.hid (HQ4.out.up (.cells #[.int .i64 n4, .int .i64 id4, .int .i64 own4, .int .i64 view4, .int .i64 left4, .slice Av4 voted4.length cv4, .int .i64 lv4, .int .i64 lx4, .int .i64 dn4, .slice Ap4 pr4.length cp4, .slice Ao4 vo4.length co4, .slice Ar4 re4.length cr4, .slice Ad4 ds4.length cd4, .slice Ah4 hs4.length ch4] 40))
    clear ra HR HB ka HQ4; have HR := HR'; have HB := HB'; have ka := ka'; have HQ4 := HQ'; clear HR' HB' ka' HQ'
    refine (HIM.out _ _ HD4.out (HF.out _ HD4.out) HQ4.out).mono ?_
    rintro e w5 ⟨rfl, hb⟩
    have HR' := Lib.hid (HR.out.on hb); have HB' := Lib.hid (on_ HB.out hb); have ka' := ka.on hb; have kx' := kx.on hb; have HQ' := Lib.hid (HQ4.out.on hb)
    clear hb HR HB ka kx HQ4; have HR := HR'; have HB := HB'; have ka := ka'; have kx := kx'; have HQ4 := HQ'; clear HR' HB' ka' kx' HQ'; have ra := ka.rule; have rx := kx.rule
    go_wp2
    go_region_held3 (fun w' => (∀ i, w'.cell? ⟨w4.heap.size, i, none⟩ = (#[.int .i64 n4, .int .i64 id4, .int .i64 own4, .int .i64 view4, .int .i64 left4, .slice Av4 voted4.length cv4, .int .i64 lv4, .int .i64 lx4, .int .i64 dn4, .slice Ap4 pr4.length cp4, .slice Ao4 vo4.length co4, .slice Ar4 re4.length cr4, .slice Ad4 ds4.length cd4, .slice Ah4 hs4.length ch4] : Array Value)[i]?) ∧ (∀ i, w'.cell? ⟨w.heap.size, i, none⟩ = (#[.int .i64 n, .int .i64 id, .int .i64 own, .int .i64 view, .int .i64 left, .slice Av voted.length cv, .int .i64 lv, .int .i64 lx, .int .i64 dn, .slice Ap pr.length cp, .slice Ao vo.length co, .slice Ar re.length cr, .slice Ad ds.length cd, .slice Ah hs.length ch] : Array Value)[i]?))
      (first | exact ⟨kx8.rule, ka8.rule⟩ | exact ⟨kx7.rule, ka7.rule⟩ | exact ⟨rx, ra⟩)
      (first
        | (go_at_call 10; refine (HT.out _ (dr_ HR.out)).mono ?_; rintro e w7 ⟨⟨n6, id6, own6, view6, left6, voted6, lv6, lx6, dn6, pr6, vo6, re6, ds6, hs6, Av6, Ap6, Ao6, Ar6, Ad6, Ah6, cv6, cp6, co6, cr6, cd6, ch6⟩, rfl, hd, hrd, hb⟩; have ka7 : Blk w7 _ _ _ := Blk.on (w := w5.drew) ka hb; have kx7 : Blk w7 _ _ _ := Blk.on (w := w5.drew) kx hb; have HD6 := Lib.hid hd; have HQ6 := Lib.hid hrd; have HQ7 := Lib.hid (RdQ.on (w := w5.drew) (dr_ HQ4.out) hb); have HB7 := Lib.hid (on_ (HB.out).drew hb); clear hd hrd hb)
        | (go_at_call 12; refine (HE.out _ _ HD4.out HD6.out _ HQ7.out HQ6.out).mono ?_; rintro e w8 ⟨rfl, hb⟩; have ka8 : Blk w8 _ _ _ := Blk.on ka7 hb; have kx8 : Blk w8 _ _ _ := Blk.on kx7 hb; have HB8 := Lib.hid (on_ HB7.out hb); clear hb))
    clear rx ra kx ka kx7 ka7 kx8 ka8
    go_wp2
    go_ret
    exact ⟨rfl, HB8.out⟩
theorem walk (q : Rq) (w : World) (hL : LensQ q) (hr : RdQ w w.heap.size q) :
    Calls Try.prog 3 #[q.agg] w fun e w' => e = .returned (.bool true) ∧ Below w.heap.size w w' :=
  walk0 q  _  w hL hr (fun _ p W e hf h => by have h9 := specJoin_is p W h hf; rw [e] at h9; exact h9) (fun _ p W e hf h => by have h9 := implJoin_is p W h hf; rw [e] at h9; exact h9)

theorem closed : joinedFacts Try.prog 3 Try.f3 Rows.fnExactJoinViewSpec Rows.fnExactJoinViewRow = true := by
  unfold joinedFacts
  rw [D.make_is, D.enter_is, D.final_is]
  kernel_rfl

set_option maxRecDepth 100000 in
theorem lifted (os : Os) (started : os.Started) (H : Type) (enc : TypeId × Value → H) :
    ReturnsInHanded {} Try.checked os 3 .any (Rows.fnExactJoinViewSpec.pre6 enc Try.prog Try.f3 Rows.fnExactJoinViewRow.domain false) (Rows.fnExactJoinViewSpec.post enc Try.prog Try.f3 false true false false) := by
  refine returnsInHanded_of_change (C := Try.checked) D.own started (by kernel_rfl) Try.func3
    (ChangeSpec.witness6 (enc := enc) (C := Try.checked) false ⟨#[], #[.agg #[.int .i64 0, .int .i64 0, .int .i64 0, .int .i64 0, .int .i64 0, .slice none 0 0, .int .i64 0, .int .i64 0, .int .i64 0, .slice none 0 0, .slice none 0 0, .slice none 0 0, .slice none 0 0, .slice none 0 0]], []⟩ 8 (by kernel_rfl) (by kernel_rfl) (by kernel_rfl) (by kernel_rfl)) ?_
  intro W base args ds gs before hval0 hW hcnd _
  have hval : ∀ (j : Nat) t v, Try.f3.params[j]? = some t → args[j]? = some v → Value.okWide Try.prog W .any base t v := hval0
  have hW' := hW
  obtain ⟨p, q, hA0, hV, rfl, hfz, hnd⟩ := hW
  have hA : DataW.TrodAll enc Try.prog W 0 (fun _ => true) true Try.f3.params.toList args.toList ds p := hA0
  rw [Try.params3] at hA hval
  obtain ⟨v0, d0, rfl, rfl, h0⟩ := trodAll_one hA
  obtain ⟨cs0, rfl, hsz0⟩ := okWide_struct Try.underlying30 (hval 0 30 v0 rfl rfl)
  obtain ⟨fuel0, hf0⟩ := h0
  obtain ⟨z, hcs0, hLz, hrz⟩ := open_rep hf0
  obtain rfl : cs0 = z.cells := by
    obtain ⟨l⟩ := cs0
    have h : l = z.cells.toList := hcs0
    rw [h]
  refine (walk z  W hLz hrz).mono fun e W' ⟨he, hb⟩ => ⟨_, he, law_post D.laidOut hW' hb rfl (by kernel_rfl) Try.underlying4 (by kernel_rfl) rfl⟩

theorem over : Rows.fnExactJoinViewRow.holds Try.pinned (OpenSpec.ofChange Rows.fnExactJoinViewSpec) :=
  OpenClaim.holds_of_wide 3 Try.f3 rfl rfl rfl rfl rfl rfl rfl ⟨rfl, rfl, rfl, rfl, rfl⟩ rfl rfl rfl rfl rfl (by kernel_rfl) Try.func3 closed
    (of_decide_eq_true (by kernel_rfl)) (by unfold Func.isWrapper; first | (rw [if_pos (by decide +kernel)]; kernel_rfl) | (rw [if_neg (by decide +kernel)]; exact ⟨rfl, rfl⟩))
    (fun os started H enc _ => lifted os started H enc)

theorem proved : Rows.FnExactJoinViewSaid :=
  over
end Go.Proofs.Ytfdfjmibjnmhpaa.fnExactJoinView
