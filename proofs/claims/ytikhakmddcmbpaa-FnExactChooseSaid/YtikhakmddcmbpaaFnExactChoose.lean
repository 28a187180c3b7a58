/-
  Proved here: for whatever numbers and list of reports, Choose of the program answers as Choose of the model, and the list reads afterwards as before. No condition.
-/
import Derived.Test.YtikhakmddcmbpaaRows
import Derived.Test.YtikhakmddcmbpaaDoor
import Derived.Test.YtikhakmddcmbpaaLiftR
import Derived.Test.YtikhakmddcmbpaaRepCh
set_option linter.unusedVariables false
set_option maxRecDepth 100000
namespace Go.Proofs.Ytikhakmddcmbpaa.fnExactChoose
open Go.RowKit Go.ChangeShapes Go.WideShapes Go.Proofs.Ytikhakmddcmbpaa.B Go.Proofs.Ytikhakmddcmbpaa.V

set_option maxHeartbeats 1600000 in
theorem walk0 (n view : Int) (A : Option Addr) (c : Nat) (ps : List Pp) (val : Int) (r0 : Int) (r1 : Bool) (w : World) (hm : ps.length ≤ maxLen) (hv : ∀ i, i < ps.length → (ps.getD i zP).r.vs.length ≤ maxLen) (hr : RdR w w.heap.size A ps)
    (hsp : Few ps → ∀ (A : Option Addr) (qs : List Pp) (W : World), rl qs = rl ps → Few qs → RdR W W.heap.size A qs → Calls Try.prog 60 #[.int .i64 n, .int .i64 view, .slice A qs.length qs.length, .int .i64 val] W fun e w' => e = .returned (.tuple #[.int .i64 r0, .bool r1]) ∧ Below W.heap.size W w')
    (him : Few ps → ∀ (A : Option Addr) (qs : List Pp) (W : World), rl qs = rl ps → Few qs → RdR W W.heap.size A qs → Calls Try.prog 37 #[.int .i64 n, .int .i64 view, .slice A qs.length qs.length, .int .i64 val] W fun e w' => e = .returned (.tuple #[.int .i64 r0, .bool r1]) ∧ Below W.heap.size W w') :
    Calls Try.prog 16 #[.int .i64 n, .int .i64 view, .slice A ps.length c, .int .i64 val] w fun e w' => e = .returned (.bool true) ∧ Below w.heap.size w w' := by
  by_cases hn : (1048576 : Int) < (ps.length : Int) + (tv ps ps.length : Int)
  · have H1 := Lib.hid (szR_big A c ps w hr hm hv hn)
    clear hsp him
    go_enter Try.func16, Try.ntmps16
    go_wp2_with fail
    refine H1.out.mono ?_
    rintro e w1 ⟨rfl, hb1⟩
    go_wp2
    go_ret
    exact ⟨rfl, hb1⟩
  · have hfew : Few ps := few_of (by omega)
    have HSP := Lib.hid (hsp hfew); clear hsp
    have HIM := Lib.hid (him hfew); clear him
    have HF := Lib.hid hfew
    have H1 := Lib.hid (szR_small A c ps w hr (by omega))
    have hne : ∀ i : Int, (i != i) = false := fun i => by simp
    have hnq : ∀ i : Bool, (i != i) = false := fun i => by simp
    obtain ⟨m, hvm⟩ : ∃ m, ps.length = m := ⟨_, rfl⟩
    have HT := Lib.hid (fun (A : Option Addr) (c : Nat) (W : World) (h : RdR W W.heap.size A ps) => toReportS_any A c ps W h hfew.1 hfew.2)
    have HE := Lib.hid (fun (A C : Option Addr) (c d : Nat) (us qs : List Pp) (h1 : rl us = rl ps) (h2 : rl qs = rl ps) (W : World) (h3 : RdR W W.heap.size A us) (h4 : RdR W W.heap.size C qs) => eqReportS_same A C c d us qs (h2.trans h1.symm) W h3 h4 (HF.out.same h1).1.1 (HF.out.same h1).1.2)
    have HFS := Lib.hid (fun (us : List Pp) (h1 : rl us = rl ps) => HF.out.same h1)
    rw [hvm] at H1 HT HFS hn hm ⊢
    have HR := Lib.hid hr
    have HV := Lib.hid hvm
    clear hfew HF hn hm hv hr hvm
    go_enter Try.func16, Try.ntmps16
    go_wp2_with fail
    refine H1.out.mono ?_
    rintro e w1 ⟨⟨y, hy0, hy1, -, rfl⟩, hb1⟩
    have hr1 := Lib.hid (HR.out.on hb1)
    have hB1 := Lib.hid hb1
    clear hb1 HR H1
    go_wp2_with fail
    refine (HT.out A c w1 hr1.out).mono ?_
    rintro e w2 ⟨g2, cs2, q2, rfl, -, hk2, hq2, hb2⟩
    have he2 := Lib.hid (hq2.same HV.out)
    have hs2 := Lib.hid (hq2.rd hk2)
    have hr2 := Lib.hid (hr1.out.on hb2)
    have hB2 := Lib.hid (on_ hB1.out hb2)
    have hl2 : q2.length = m := (HFS.out q2 he2.out).2
    clear hb2 hr1 hB1 hk2 hq2
    go_wp2_with fail
    refine (show Calls _ _ #[.int .i64 n, .int .i64 view, .slice (some ⟨g2, 0, none⟩) m m, .int .i64 val] _ _ from by rw [← hl2]; exact HSP.out (some ⟨g2, 0, none⟩) q2 w2 he2.out (HFS.out q2 he2.out).1 hs2.out).mono ?_
    clear hl2
    rintro e w3 ⟨rfl, hb3⟩
    have hr3 := Lib.hid (hr2.out.on hb3)
    have hB3 := Lib.hid (on_ hB2.out hb3)
    clear hb3 hr2 hB2 hs2 he2
    go_wp2_with fail
    refine (HT.out A c w3 hr3.out).mono ?_
    rintro e w4 ⟨g4, cs4, q4, rfl, -, hk4, hq4, hb4⟩
    have he4 := Lib.hid (hq4.same HV.out)
    have hs4 := Lib.hid (hq4.rd hk4)
    have hr4 := Lib.hid (hr3.out.on hb4)
    have hB4 := Lib.hid (on_ hB3.out hb4)
    have hl4 : q4.length = m := (HFS.out q4 he4.out).2
    clear hb4 hr3 hB3 hk4 hq4
    go_wp2_with fail
    refine (show Calls _ _ #[.int .i64 n, .int .i64 view, .slice (some ⟨g4, 0, none⟩) m m, .int .i64 val] _ _ from by rw [← hl4]; exact HIM.out (some ⟨g4, 0, none⟩) q4 w4 he4.out (HFS.out q4 he4.out).1 hs4.out).mono ?_
    rintro e w5 ⟨rfl, hb5⟩
    have hs5 := Lib.hid (hs4.out.on hb5)
    have hr5 := Lib.hid (hr4.out.on hb5)
    have hB5 := Lib.hid (on_ hB4.out hb5)
    have hl4 := Lib.hid hl4
    clear hb5 hr4 hB4 hs4
    go_wp2_with fail
    refine (HT.out A c w5 hr5.out).mono ?_
    rintro e w6 ⟨g6, cs6, q6, rfl, -, hk6, hq6, hb6⟩
    have he6 := Lib.hid (hq6.same HV.out)
    have ht6 := Lib.hid (hq6.rd hk6)
    have hs6 := Lib.hid (hs5.out.on hb6)
    have hB6 := Lib.hid (on_ hB5.out hb6)
    clear hb6 hr5 hB5 hs5 hk6 hq6
    go_wp2_with fail
    refine (show Calls _ _ #[.slice (some ⟨g4, 0, none⟩) m m, .slice (some ⟨g6, 0, none⟩) m m] _ _ from by
      have := HE.out (some ⟨g4, 0, none⟩) (some ⟨g6, 0, none⟩) m m q4 q6 he4.out he6.out w6 hs6.out ht6.out
      rwa [hl4.out] at this).mono ?_
    rintro e w7 ⟨rfl, hb7⟩
    have hB7 := Lib.hid (on_ hB6.out hb7)
    clear hb7
    go_wp2
    go_ret
    exact ⟨rfl, hB7.out⟩
theorem walk (n view : Int) (A : Option Addr) (c : Nat) (ps : List Pp) (val : Int) (w : World) (hm : ps.length ≤ maxLen) (hv : ∀ i, i < ps.length → (ps.getD i zP).r.vs.length ≤ maxLen) (hr : RdR w w.heap.size A ps) :
    Calls Try.prog 16 #[.int .i64 n, .int .i64 view, .slice A ps.length c, .int .i64 val] w fun e w' => e = .returned (.bool true) ∧ Below w.heap.size w w' :=
  walk0 n view A c ps val _ _ w hm hv hr (fun _ A qs W e hf h => specChoose_any n view val A _ qs _ e W h hf) (fun _ A qs W e hf h => implChoose_any n view val A _ qs _ e W h hf)

theorem closed : joinedFacts Try.prog 16 Try.f16 Rows.fnExactChooseSpec Rows.fnExactChooseRow = true := by
  unfold joinedFacts
  rw [D.make_is, D.enter_is, D.final_is]
  kernel_rfl

set_option maxRecDepth 100000 in
theorem lifted (os : Os) (started : os.Started) (H : Type) (enc : TypeId × Value → H) :
    ReturnsInHanded {} Try.checked os 16 .any (Rows.fnExactChooseSpec.pre6 enc Try.prog Try.f16 Rows.fnExactChooseRow.domain false) (Rows.fnExactChooseSpec.post enc Try.prog Try.f16 false true false false) := by
  refine returnsInHanded_of_change (C := Try.checked) D.own started (by kernel_rfl) Try.func16
    (ChangeSpec.witness6 (enc := enc) (C := Try.checked) false ⟨#[], #[.int .i64 0, .int .i64 0, .slice none 0 0, .int .i64 0], []⟩ 8 (by kernel_rfl) (by kernel_rfl) (by kernel_rfl) (by kernel_rfl)) ?_
  intro W base args ds gs before hval0 hW hcnd _
  have hval : ∀ (j : Nat) t v, Try.f16.params[j]? = some t → args[j]? = some v → Value.okWide Try.prog W .any base t v := hval0
  have hW' := hW
  obtain ⟨p, q, hA0, hV, rfl, hfz, hnd⟩ := hW
  have hA : DataW.TrodAll enc Try.prog W 0 (fun _ => true) true Try.f16.params.toList args.toList ds p := hA0
  rw [Try.params16] at hA hval
  obtain ⟨v0, v1, v2, v3, d0, d1, d2, d3, p0, p1, p2, p3, rfl, rfl, rfl, h0, h1, h2, h3⟩ := trodAll_four hA
  obtain ⟨n, rfl, rfl, rfl, wn⟩ := open_int Try.underlying3 (hval 0 3 v0 rfl rfl) h0
  obtain ⟨view, rfl, rfl, rfl, wview⟩ := open_int Try.underlying3 (hval 1 3 v1 rfl rfl) h1
  obtain ⟨a2, len2, cap2, rfl⟩ := okWide_slice Try.underlying56 (hval 2 56 v2 rfl rfl)
  obtain ⟨fuel2, hf2⟩ := h2
  obtain ⟨Aps, cps, ps, hcs2, hmps, hvps, hrps⟩ := open_reports hf2
  have hv2 : (Value.slice a2 len2 cap2) = .slice Aps ps.length cps := by simpa [Value.cells] using hcs2
  rw [hv2] at hW' ⊢
  obtain ⟨val, rfl, rfl, rfl, wval⟩ := open_int Try.underlying3 (hval 3 3 v3 rfl rfl) h3
  refine (walk n view Aps cps ps val W hmps hvps hrps).mono fun e W' ⟨he, hb⟩ => ⟨_, he, law_post D.laidOut hW' hb rfl (by kernel_rfl) Try.underlying4 (by kernel_rfl) rfl⟩

theorem over : Rows.fnExactChooseRow.holds Try.pinned (OpenSpec.ofChange Rows.fnExactChooseSpec) :=
  OpenClaim.holds_of_wide 16 Try.f16 rfl rfl rfl rfl rfl rfl rfl ⟨rfl, rfl, rfl, rfl, rfl⟩ rfl rfl rfl rfl rfl (by kernel_rfl) Try.func16 closed
    (of_decide_eq_true (by kernel_rfl)) (by unfold Func.isWrapper; first | (rw [if_pos (by decide +kernel)]; kernel_rfl) | (rw [if_neg (by decide +kernel)]; exact ⟨rfl, rfl⟩))
    (fun os started H enc _ => lifted os started H enc)

theorem proved : Rows.FnExactChooseSaid :=
  over
end Go.Proofs.Ytikhakmddcmbpaa.fnExactChoose
