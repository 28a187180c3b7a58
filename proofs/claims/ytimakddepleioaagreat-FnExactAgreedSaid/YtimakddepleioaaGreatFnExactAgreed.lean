/-
  Proved here: for whatever cluster, Agreed of the program answers as Agreed of the model, and the state reads afterwards as before. No condition.
-/
import Derived.Test.YtimakddepleioaaGreatRows
import Derived.Test.YtimakddepleioaaGreatDoor
import Derived.Test.YtimakddepleioaaGreatCKit

import Derived.Test.YtimakddepleioaaGreatCLate
import Derived.Deep.RegionHeld3
set_option linter.unusedVariables false
set_option maxRecDepth 100000
namespace Go.Proofs.YtimakddepleioaaGreat.fnExactAgreed
open Go.RowKit Go.ChangeShapes Go.WideShapes Go.Proofs.YtimakddepleioaaGreat.B Go.Proofs.YtimakddepleioaaGreat.V
theorem dr_ {w : World} {q : Cq} (h : RdC4 w w.heap.size q) : RdC4 w.drew w.drew.heap.size q := h.dr

set_option maxHeartbeats 3200000 in
theorem walk0 (q : Cq) (r0 : Bool) (w : World) (hL : LensC q) (hr : RdC4 w w.heap.size q)
    (hsp : FewC q → ∀ (p : Cq) (W : World), p.dat = q.dat → FewC p → RdC4 W W.heap.size p → Calls Tryz.prog 10 #[p.agg] W fun e w' => e = .returned (.bool r0) ∧ Below W.heap.size W w')
    (him : FewC q → ∀ (p : Cq) (W : World), p.dat = q.dat → FewC p → RdC4 W W.heap.size p → Calls Tryz.prog 12 #[p.agg] W fun e w' => e = .returned (.bool r0) ∧ Below W.heap.size W w') :
    Calls Tryz.prog 3 #[q.agg] w fun e w' => e = .returned (.bool true) ∧ Below w.heap.size w w' := by
  have hsz := szCluster_any q 1048576 (w.alloc (.cells q.cells 26)) (hr.up (.cells q.cells 26)) hL (by omega) (by omega)
  by_cases hn : (1048576 : Int) < (totC q : Int)
  · rw [if_pos hn] at hsz
    have H1 := Lib.hid hsz
    clear hsp him hsz hr hL hn
    have hB := up_ (Below.refl w.heap.size w) (.cells q.cells 26)
    have ka := Blk.new w 26 q.cells
    obtain ⟨n, bad, rs, nt, Ab, Ar, An, cb, cr, cn⟩ := q
    simp only [Cq.agg, Cq.cells] at *
    have ra := ka.rule
    go_enter Tryz.func3, Tryz.ntmps3
    go_wp2_with fail
    refine H1.out.mono ?_
    rintro e w1 ⟨rfl, hb1⟩
    have hB1 := on_ hB hb1
    clear ra ka hB hb1
    go_wp2
    go_ret
    exact ⟨rfl, hB1⟩
  · rw [if_neg hn] at hsz
    have hfew : FewC q := fewC_of (by omega)
    obtain ⟨y, hy⟩ : ∃ y : Int, 1048576 - (totC q : Int) = y := ⟨_, rfl⟩
    rw [hy] at hsz
    have hy0 : 0 ≤ y := by omega
    have hy1 : ¬ y < 0 := by omega
    have hy2 : y ≤ 1048576 := by omega
    clear hy
    have H1 := Lib.hid hsz; clear hsz hn hL
    have HSP := Lib.hid (hsp hfew); have HIM := Lib.hid (him hfew); clear hsp him
    have HT := Lib.hid (fun (W : World) (h : RdC4 W W.heap.size q) => toCluster_any q W h hfew)
    have HE := Lib.hid (fun (a b : Cq) (ha : a.dat = q.dat) (hb : b.dat = q.dat) (W : World) (h1 : RdC4 W W.heap.size a) (h2 : RdC4 W W.heap.size b) => eqCluster_same a b (hb.trans ha.symm) W h1 h2 (hfew.same ha))
    have HF := Lib.hid (fun (a : Cq) (ha : a.dat = q.dat) => hfew.same ha)
    have HR := Lib.hid (hr.up (.cells q.cells 26))
    have HB := Lib.hid (up_ (Below.refl w.heap.size w) (.cells q.cells 26))
    have ka := Blk.new w 26 q.cells
    clear hfew hr
    have hne : ∀ i : Int, (i != i) = false := fun i => by simp
    have hnq : ∀ i : Bool, (i != i) = false := fun i => by simp
    obtain ⟨V, hV⟩ : ∃ V, q = V := ⟨_, rfl⟩
    obtain ⟨n, bad, rs, nt, Ab, Ar, An, cb, cr, cn⟩ := q
    simp only [Cq.agg, Cq.cells] at *
    have ra := ka.rule
    go_enter Tryz.func3, Tryz.ntmps3
    go_wp2_with fail
    refine H1.out.mono ?_
    rintro e w1 ⟨rfl, hb⟩
    have HR' := Lib.hid (HR.out.on hb); have HB' := Lib.hid (on_ HB.out hb); have ka' := ka.on hb
    clear ra hb HR HB H1 ka; have HR := HR'; have HB := HB'; have ka := ka'; clear HR' HB' ka'; have ra := ka.rule
    go_wp2_with fail
    refine (HT.out w1 HR.out).mono ?_
    rintro e w2 ⟨⟨n2, bad2, rs2, nt2, Ab2, Ar2, An2, cb2, cr2, cn2⟩, rfl, hd, hrd, hb⟩
    have HD2 := Lib.hid hd; have HQ2 := Lib.hid hrd
    have HR' := Lib.hid (HR.out.on hb); have HB' := Lib.hid (on_ HB.out hb); have ka' := ka.on hb
    clear ra hb HR HB ka hd hrd; have HR := HR'; have HB := HB'; have ka := ka'; clear HR' HB' ka'; have ra := ka.rule
    dsimp only
    go_wp2_with fail
    refine (HSP.out _ w2 HD2.out (HF.out _ HD2.out) HQ2.out).mono ?_
    rintro e w3 ⟨rfl, hb⟩
    have HR' := Lib.hid (HR.out.on hb); have HB' := Lib.hid (on_ HB.out hb); have ka' := ka.on hb
    clear ra hb HR HB ka HQ2 HD2; have HR := HR'; have HB := HB'; have ka := ka'; clear HR' HB' ka'; have ra := ka.rule
    go_wp2_with fail
    refine (HT.out w3 HR.out).mono ?_
    rintro e w4 ⟨⟨n4, bad4, rs4, nt4, Ab4, Ar4, An4, cb4, cr4, cn4⟩, rfl, hd, hrd, hb⟩
    have HD4 := Lib.hid hd; have HQ4 := Lib.hid hrd
    have HR' := Lib.hid (HR.out.on hb); have HB' := Lib.hid (on_ HB.out hb); have ka' := ka.on hb
    clear ra hb HR HB ka hd hrd; have HR := HR'; have HB := HB'; have ka := ka'; clear HR' HB' ka'; have ra := ka.rule
    dsimp only
    go_wp2_with fail
    have kx := Blk.new w4 32 #[.int .i64 n4, .slice Ab4 bad4.length cb4, .slice Ar4 rs4.length cr4, .slice An4 nt4.length cn4]
    have HR' := Lib.hid (HR.out.up (.cells #[.int .i64 n4, .slice Ab4 bad4.length cb4, .slice Ar4 rs4.length cr4, .slice An4 nt4.length cn4] 32)); have HB' := Lib.hid (up_ HB.out (.cells #[.int .i64 n4, .slice Ab4 bad4.length cb4, .slice Ar4 rs4.length cr4, .slice An4 nt4.length cn4] 32)); have ka' := ka.up (.cells #[.int .i64 n4, .slice Ab4 bad4.length cb4, .slice Ar4 rs4.length cr4, .slice An4 nt4.length cn4] 32); have HQ' := Lib.hid (HQ4.out.up (.cells #[.int .i64 n4, .slice Ab4 bad4.length cb4, .slice Ar4 rs4.length cr4, .slice An4 nt4.length cn4] 32))
    clear ra HR HB ka HQ4; have HR := HR'; have HB := HB'; have ka := ka'; have HQ4 := HQ'; clear HR' HB' ka' HQ'
    refine (HIM.out _ _ HD4.out (HF.out _ HD4.out) HQ4.out).mono ?_
    rintro e w5 ⟨rfl, hb⟩
    have HR' := Lib.hid (HR.out.on hb); have HB' := Lib.hid (on_ HB.out hb); have ka' := ka.on hb; have kx' := kx.on hb; have HQ' := Lib.hid (HQ4.out.on hb)
    clear hb HR HB ka kx HQ4; have HR := HR'; have HB := HB'; have ka := ka'; have kx := kx'; have HQ4 := HQ'; clear HR' HB' ka' kx' HQ'; have ra := ka.rule; have rx := kx.rule
    go_wp2
    go_region_held3 (fun w' => (∀ i, w'.cell? ⟨w4.heap.size, i, none⟩ = (#[.int .i64 n4, .slice Ab4 bad4.length cb4, .slice Ar4 rs4.length cr4, .slice An4 nt4.length cn4] : Array Value)[i]?) ∧ (∀ i, w'.cell? ⟨w.heap.size, i, none⟩ = (#[.int .i64 n, .slice Ab bad.length cb, .slice Ar rs.length cr, .slice An nt.length cn] : Array Value)[i]?))
      (first | exact ⟨kx8.rule, ka8.rule⟩ | exact ⟨kx7.rule, ka7.rule⟩ | exact ⟨rx, ra⟩)
      (first
        | (go_at_call 11; refine (HT.out _ (dr_ HR.out)).mono ?_; rintro e w7 ⟨⟨n6, bad6, rs6, nt6, Ab6, Ar6, An6, cb6, cr6, cn6⟩, rfl, hd, hrd, hb⟩; have ka7 : Blk w7 _ _ _ := Blk.on (w := w5.drew) ka hb; have kx7 : Blk w7 _ _ _ := Blk.on (w := w5.drew) kx hb; have HD6 := Lib.hid hd; have HQ6 := Lib.hid hrd; have HQ7 := Lib.hid (RdC4.on (w := w5.drew) (dr_ HQ4.out) hb); have HB7 := Lib.hid (on_ (HB.out).drew hb); clear hd hrd hb)
        | (go_at_call 13; refine (HE.out _ _ HD4.out HD6.out _ HQ7.out HQ6.out).mono ?_; rintro e w8 ⟨rfl, hb⟩; have ka8 : Blk w8 _ _ _ := Blk.on ka7 hb; have kx8 : Blk w8 _ _ _ := Blk.on kx7 hb; have HB8 := Lib.hid (on_ HB7.out hb); clear hb))
    clear rx ra kx ka kx7 ka7 kx8 ka8
    go_wp2
    go_ret
    exact ⟨rfl, HB8.out⟩
theorem walk (q : Cq) (w : World) (hL : LensC q) (hr : RdC4 w w.heap.size q) :
    Calls Tryz.prog 3 #[q.agg] w fun e w' => e = .returned (.bool true) ∧ Below w.heap.size w w' :=
  walk0 q  _  w hL hr (fun _ p W e hf h => specAgreed_is _ p (by rw [e]) W h hf) (fun _ p W e hf h => implAgreed_is _ p (by rw [e]) W h hf)

theorem closed : joinedFacts Tryz.prog 3 Tryz.f3 Rows.fnExactAgreedSpec Rows.fnExactAgreedRow = true := by
  unfold joinedFacts
  rw [D.make_is, D.enter_is, D.final_is]
  kernel_rfl

set_option maxRecDepth 100000 in
theorem lifted (os : Os) (started : os.Started) (H : Type) (enc : TypeId × Value → H) :
    ReturnsInHanded {} Tryz.checked os 3 .any (Rows.fnExactAgreedSpec.pre6 enc Tryz.prog Tryz.f3 Rows.fnExactAgreedRow.domain false) (Rows.fnExactAgreedSpec.post enc Tryz.prog Tryz.f3 false true false false) := by
  refine returnsInHanded_of_change (C := Tryz.checked) D.own started (by kernel_rfl) Tryz.func3
    (ChangeSpec.witness6 (enc := enc) (C := Tryz.checked) false ⟨#[], #[.agg #[.int .i64 0, .slice none 0 0, .slice none 0 0, .slice none 0 0]], []⟩ 8 (by kernel_rfl) (by kernel_rfl) (by kernel_rfl) (by kernel_rfl)) ?_
  intro W base args ds gs before hval0 hW hcnd _
  have hval : ∀ (j : Nat) t v, Tryz.f3.params[j]? = some t → args[j]? = some v → Value.okWide Tryz.prog W .any base t v := hval0
  have hW' := hW
  obtain ⟨p, q, hA0, hV, rfl, hfz, hnd⟩ := hW
  have hA : DataW.TrodAll enc Tryz.prog W 0 (fun _ => true) true Tryz.f3.params.toList args.toList ds p := hA0
  rw [Tryz.params3] at hA hval
  obtain ⟨v0, d0, rfl, rfl, h0⟩ := trodAll_one hA
  obtain ⟨cs0, rfl, hsz0⟩ := okWide_struct Tryz.underlying26 (hval 0 26 v0 rfl rfl)
  obtain ⟨fuel0, hf0⟩ := h0
  obtain ⟨z, hcs0, hLz, hrz⟩ := open_cluster hf0
  obtain rfl : cs0 = z.cells := by
    obtain ⟨l⟩ := cs0
    have h : l = z.cells.toList := hcs0
    rw [h]
  refine (walk z  W hLz hrz).mono fun e W' ⟨he, hb⟩ => ⟨_, he, law_post D.laidOut hW' hb rfl (by kernel_rfl) Tryz.underlying4 (by kernel_rfl) rfl⟩

theorem over : Rows.fnExactAgreedRow.holds Tryz.pinned (OpenSpec.ofChange Rows.fnExactAgreedSpec) :=
  OpenClaim.holds_of_wide 3 Tryz.f3 rfl rfl rfl rfl rfl rfl rfl ⟨rfl, rfl, rfl, rfl, rfl⟩ rfl rfl rfl rfl rfl (by kernel_rfl) Tryz.func3 closed
    (of_decide_eq_true (by kernel_rfl)) (by unfold Func.isWrapper; first | (rw [if_pos (by decide +kernel)]; kernel_rfl) | (rw [if_neg (by decide +kernel)]; exact ⟨rfl, rfl⟩))
    (fun os started H enc _ => lifted os started H enc)

theorem proved : Rows.FnExactAgreedSaid :=
  over
end Go.Proofs.YtimakddepleioaaGreat.fnExactAgreed
