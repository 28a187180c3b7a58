/-
  Proved here: for whatever numbers and list of reports, SafeVals of the program answers as SafeVals of the model, the list reads afterwards as before, and each answer owns its memory. No condition.
-/
import Derived.Test.YtikhakmddcmbpaaRows
import Derived.Test.YtikhakmddcmbpaaDoor
import Derived.Test.YtikhakmddcmbpaaLiftR
import Derived.Test.YtikhakmddcmbpaaRepCh
import Derived.Test.YtikhakmddcmbpaaRMarks
set_option linter.unusedVariables false
set_option maxRecDepth 100000
namespace Go.Proofs.Ytikhakmddcmbpaa.fnExactSafeVals
open Go.RowKit Go.ChangeShapes Go.WideShapes Go.Proofs.Ytikhakmddcmbpaa.B Go.Proofs.Ytikhakmddcmbpaa.V

theorem tv_same {ps qs : List Pp} (h : rl qs = rl ps) : ∀ k, tv qs k = tv ps k
  | 0 => rfl
  | k + 1 => by
    have e : (qs.getD k zP).r = (ps.getD k zP).r := by rw [← rl_at, h, rl_at]
    simp only [tv, tv_same h k, e]
set_option maxHeartbeats 3200000 in
theorem walk0 (n view : Int) (A : Option Addr) (c : Nat) (ps : List Pp) (xs : List Int) (w : World) (hm : ps.length ≤ maxLen) (hv : ∀ i, i < ps.length → (ps.getD i zP).r.vs.length ≤ maxLen) (hr : RdR w w.heap.size A ps) (hxl : xs.length ≤ 60)
    (hsp : Few ps → ∀ (A : Option Addr) (qs : List Pp) (W : World), rl qs = rl ps → Few qs → RdR W W.heap.size A qs → Calls Try.prog 65 #[.int .i64 n, .int .i64 view, .slice A qs.length qs.length] W (NRes2 xs W))
    (him : Few ps → ∀ (A : Option Addr) (qs : List Pp) (W : World), rl qs = rl ps → Few qs → RdR W W.heap.size A qs → Calls Try.prog 43 #[.int .i64 n, .int .i64 view, .slice A qs.length qs.length] W (NRes2 xs W)) :
    Calls Try.prog 20 #[.int .i64 n, .int .i64 view, .slice A ps.length c] w fun e w' => e = .returned (.bool true) ∧ Below w.heap.size w w' := by
  by_cases hn : (1048576 : Int) < (ps.length : Int) + (tv ps ps.length : Int)
  · have H1 := Lib.hid (szR_big A c ps w hr hm hv hn)
    clear hsp him
    go_enter Try.func20, Try.ntmps20
    go_wp2_with fail
    refine H1.out.mono ?_
    rintro e w1 ⟨rfl, hb1⟩
    go_wp2
    go_ret
    exact ⟨rfl, hb1⟩
  · have hfew : Few ps := few_of (by omega)
    have HSP := Lib.hid (hsp hfew); clear hsp
    have HIM := Lib.hid (him hfew); clear him
    have HF := Lib.hid hfew
    have H1 := Lib.hid (szR_small A c ps w hr (by omega))
    have hne : ((1 + (xs.length : Int)) != (1 + (xs.length : Int))) = false := by simp
    obtain ⟨m, hvm⟩ : ∃ m, ps.length = m := ⟨_, rfl⟩
    have HT := Lib.hid (fun (A : Option Addr) (c : Nat) (W : World) (h : RdR W W.heap.size A ps) => toReportS_any A c ps W h hfew.1 hfew.2)
    have HE := Lib.hid (fun (A C : Option Addr) (c d : Nat) (us qs : List Pp) (h1 : rl us = rl ps) (h2 : rl qs = rl ps) (W : World) (h3 : RdR W W.heap.size A us) (h4 : RdR W W.heap.size C qs) => eqReportS_same A C c d us qs (h2.trans h1.symm) W h3 h4 (HF.out.same h1).1.1 (HF.out.same h1).1.2)
    have HFS := Lib.hid (fun (us : List Pp) (h1 : rl us = rl ps) => HF.out.same h1)
    have HTV : Hid (∀ us : List Pp, rl us = rl ps → kR us 1 m ≤ 16777216) := fun us h1 => by
      have := tv_same h1 m
      simp only [kR]; rw [hvm] at hn; omega
    rw [hvm] at H1 HT HFS hn hm ⊢
    have HR := Lib.hid hr
    have HV := Lib.hid hvm
    clear hfew HF hn hm hv hr hvm
    go_enter Try.func20, Try.ntmps20
    go_wp2_with fail
    refine H1.out.mono ?_
    rintro e w1 ⟨⟨y, hy0, hy1, -, rfl⟩, hb1⟩
    have hB1 := Lib.hid hb1
    clear hb1 H1
    go_wp2_with fail
    refine (HT.out A c w1 ((HR.out.below hB1.out).more hB1.out.size)).mono ?_
    rintro e w2 ⟨g2, cs2, q2, rfl, hz2, hk2, hq2, hb2⟩
    have he2 := Lib.hid (hq2.same HV.out)
    have hs2 := Lib.hid (hq2.rd hk2)
    have hl2 : q2.length = m := (HFS.out q2 he2.out).2
    have hB2 := Lib.hid (on_ hB1.out hb2)
    clear hb2 hB1 hk2 hq2 hz2
    go_wp2_with fail
    refine (show Calls _ _ #[.int .i64 n, .int .i64 view, .slice (some ⟨g2, 0, none⟩) m m] _ _ from by rw [← hl2]; exact HSP.out (some ⟨g2, 0, none⟩) q2 w2 he2.out (HFS.out q2 he2.out).1 hs2.out).mono ?_
    rintro e w3 ⟨B3, d3, rfl, ow3, hb3⟩
    have hB3 := Lib.hid (on_ hB2.out hb3)
    have hlt3 := Lib.hid ow3.lt
    have hB3k := hB3
    have ow3 := Lib.hid ow3
    clear hb3 hB2 hs2 he2 hl2
    go_wp2_with fail
    refine (HT.out A c w3 ((HR.out.below hB3.out).more hB3k.out.size)).mono ?_
    rintro e w4 ⟨g4, cs4, q4, rfl, hz4, hk4, hq4, hb4⟩
    have he4 := Lib.hid (hq4.same HV.out)
    have hs4 := Lib.hid (hq4.rd hk4)
    have hl4 : q4.length = m := (HFS.out q4 he4.out).2
    have hB4 := Lib.hid (on_ hB3.out hb4)
    obtain ⟨gs, mk4, in4⟩ := MkQ.of_cpd hk4 hq4 1
    have IN := Lib.hid in4
    have mk4 := Lib.hid mk4
    have hz4 := Lib.hid hz4
    have hmk4lt := Lib.hid (show g4 < w4.heap.size from in4.2.1)
    have hw4 := Lib.hid (show w3.heap.size ≤ w4.heap.size from hb4.size)
    have ow4 := Lib.hid (ow3.out.on hb4)
    clear hb4 hB3 ow3
    clear hk4 hq4 in4
    go_wp2_with fail
    refine (show Calls _ _ #[.int .i64 n, .int .i64 view, .slice (some ⟨g4, 0, none⟩) m m] _ _ from by rw [← hl4]; exact HIM.out (some ⟨g4, 0, none⟩) q4 w4 he4.out (HFS.out q4 he4.out).1 hs4.out).mono ?_
    rintro e w5 ⟨B5, d5, rfl, og5, hb5⟩
    have hB5 := Lib.hid (on_ hB4.out hb5)
    have hge5 := Lib.hid og5.ge
    have og5 := Lib.hid og5
    have ow5 := Lib.hid (ow4.out.on hb5)
    have mk5 := Lib.hid (mk4.out.on hb5)
    have hs5 := Lib.hid (hs4.out.on hb5)
    have hx5 : w4.heap.size ≤ w5.heap.size := hb5.size
    clear hb5 hB4 ow4 mk4 hs4
    go_wp2_with fail
    refine (eqIntS_same _ _ _ _ xs _ og5.out.rd ow5.out.rd (by omega)).mono ?_
    rintro e w6 ⟨rfl, hb6⟩
    have hB6 := Lib.hid (on_ hB5.out hb6)
    have ow6 := Lib.hid (ow5.out.on hb6)
    have og6 := Lib.hid (og5.out.on hb6)
    have mk6 := Lib.hid (mk5.out.on hb6)
    have hs6 := Lib.hid (hs5.out.on hb6)
    have hx6 : w4.heap.size ≤ w6.heap.size := Nat.le_trans hx5 hb6.size
    clear hx5
    clear hs5 hb6 hB5 ow5 og5 mk5
    go_wp2_with fail
    refine (HT.out A c w6 ((HR.out.below hB6.out).more hB6.out.size)).mono ?_
    rintro e w7 ⟨g7, cs7, q7, rfl, hz7, hk7, hq7, hb7⟩
    have he7 := Lib.hid (hq7.same HV.out)
    have hs7 := Lib.hid (hq7.rd hk7)
    have hl7 : q7.length = m := (HFS.out q7 he7.out).2
    have hB7 := Lib.hid (on_ hB6.out hb7)
    have hs47 := Lib.hid (hs6.out.on hb7)
    have hx7 : w4.heap.size ≤ w7.heap.size := Nat.le_trans hx6 hb7.size
    clear hx6
    have ow7 := Lib.hid (ow6.out.on hb7)
    have og7 := Lib.hid (og6.out.on hb7)
    have mk7 := Lib.hid (mk6.out.on hb7)
    clear hb7 hB6 ow6 og6 mk6
    clear hs6 hk7 hq7 hz7
    go_wp2_with fail
    refine (show Calls _ _ #[.slice (some ⟨g4, 0, none⟩) m m, .slice (some ⟨g7, 0, none⟩) m m] _ _ from by
      have := HE.out (some ⟨g4, 0, none⟩) (some ⟨g7, 0, none⟩) m m q4 q7 he4.out he7.out w7 hs47.out hs7.out
      rwa [hl4] at this).mono ?_
    rintro e w8 ⟨rfl, hb8⟩
    have hB8 := Lib.hid (on_ hB7.out hb8)
    have hB8w := Lib.hid (Nat.le_trans hx7 hb8.size)
    clear hx7
    have ow8 := Lib.hid (ow7.out.on hb8)
    have og8 := Lib.hid (og7.out.on hb8)
    have mk8 := Lib.hid (mk7.out.on hb8)
    clear hb8 hB7 ow7 og7 mk7
    clear hs47 hs7 he7 hl7
    have HMK : Hid (Calls Try.prog 53 #[.slice (some ⟨g4, 0, none⟩) m m, .int .i64 1] w8 fun e w' => e = .returned (.int .i64 (kR q4 1 m)) ∧ (∃ cur', MkQ w' g4 gs cur' q4 1 m) ∧ Mid g4 w4.heap.size w8 w') := by
      have := markReportS_any g4 w4.heap.size g4 m gs cs4 q4 1 w8 mk8.out IN.out (HFS.out q4 he4.out).1.1 (HFS.out q4 he4.out).1.2 (by omega) (by rw [hl4]; exact HTV.out q4 he4.out)
      rwa [hl4] at this
    obtain ⟨ky, hky⟩ : ∃ ky, kR q4 1 m = ky := ⟨_, rfl⟩
    have hk0 : 1 ≤ ky := by rw [← hky]; exact kR_ge q4 1 m
    rw [hky] at HMK
    clear mk8 IN hky
    go_wp2_with fail
    refine HMK.out.mono ?_
    rintro e w9 ⟨rfl, -, hmid⟩
    have ow9 := Lib.hid (oi_mid ow8.out hmid (fun g' e => .inl (by have := hlt3.out g' e; have := hz4.out; omega)))
    have og9 := Lib.hid (oi_mid og8.out hmid (fun g' e => .inr (hge5.out g' e)))
    have hz1 := hB3k.out.size
    have hB9 := Lib.hid (hB8.out.trans ((hmid.below (by have := hmk4lt.out; have := hB8w.out; omega)).mono (by have := hz4.out; omega)))
    clear hmid ow8 og8 hB8 HMK
    go_wp2_with fail
    refine (eqIntS_same _ _ _ _ xs _ og9.out.rd ow9.out.rd (by omega)).mono ?_
    rintro e w10 ⟨rfl, hb10⟩
    have hB10 := Lib.hid (on_ hB9.out hb10)
    have ow10 := Lib.hid (ow9.out.on hb10)
    have og10 := Lib.hid (og9.out.on hb10)
    clear hb10 hB9 ow9 og9
    go_wp2_with fail
    refine (markI_own B5 _ _ _ xs 1 _ og10.out (by omega) (by omega) (by omega)).mono ?_
    rintro e w11 ⟨rfl, mg11, hbl⟩
    have mg11 := Lib.hid mg11
    have ow11 := Lib.hid (ow10.out.low hbl (fun g' e' => by have := hlt3.out g' e'; have := hw4.out; omega))
    have hB11 := Lib.hid (hB10.out.trans (hbl.mono (by have := hw4.out; omega)))
    clear hbl og10 ow10 hB10
    go_wp2_with fail
    refine (heldI_own B5 _ _ _ xs.length 1 _ mg11.out (by omega) (by omega) (by omega)).mono ?_
    rintro e w12 ⟨rfl, rfl⟩
    go_wp2_with fail
    refine (HT.out A c w11 ((HR.out.below hB11.out).more hB11.out.size)).mono ?_
    rintro e w13 ⟨g13, cs13, q13, rfl, hz13, hk13, hq13, hb13⟩
    have he13 := Lib.hid (hq13.same HV.out)
    have hs13 := Lib.hid (hq13.rd hk13)
    have hl13 : q13.length = m := (HFS.out q13 he13.out).2
    have hB13 := Lib.hid (on_ hB11.out hb13)
    have ow13 := Lib.hid (ow11.out.on hb13)
    have mg13 := Lib.hid (mg11.out.on hb13)
    clear hb13 hB11 ow11 mg11
    clear hk13 hq13 hz13
    go_wp2_with fail
    refine (show Calls _ _ #[.int .i64 n, .int .i64 view, .slice (some ⟨g13, 0, none⟩) m m] _ _ from by rw [← hl13]; exact HIM.out (some ⟨g13, 0, none⟩) q13 w13 he13.out (HFS.out q13 he13.out).1 hs13.out).mono ?_
    rintro e w14 ⟨B14, d14, rfl, oh14, hb14⟩
    have hB14 := Lib.hid (on_ hB13.out hb14)
    have oh14 := Lib.hid oh14
    have ow14 := Lib.hid (ow13.out.on hb14)
    have mg14 := Lib.hid (mg13.out.on hb14)
    clear hb14 hB13 ow13 mg13
    go_wp2_with fail
    refine (eqIntS_same _ _ _ _ xs _ oh14.out.rd ow14.out.rd (by omega)).mono ?_
    rintro e w15 ⟨rfl, hb15⟩
    have hB15 := Lib.hid (on_ hB14.out hb15)
    have mg15 := Lib.hid (mg14.out.on hb15)
    clear hb15 hB14 mg14
    go_wp2_with fail
    refine (heldI_own B5 _ _ _ xs.length 1 _ mg15.out (by omega) (by omega) (by omega)).mono ?_
    rintro e w16 ⟨rfl, rfl⟩
    go_wp2
    go_ret
    exact ⟨rfl, hB15.out⟩
theorem walk (n view : Int) (A : Option Addr) (c : Nat) (ps : List Pp) (w : World) (hm : ps.length ≤ maxLen) (hv : ∀ i, i < ps.length → (ps.getD i zP).r.vs.length ≤ maxLen) (hr : RdR w w.heap.size A ps) :
    Calls Try.prog 20 #[.int .i64 n, .int .i64 view, .slice A ps.length c] w fun e w' => e = .returned (.bool true) ∧ Below w.heap.size w w' :=
  walk0 n view A c ps (safeVT n view (rl ps)) w hm hv hr (safeVT_le _ _ _) (fun _ A qs W e hf h => (specSafeVals_any n view A _ qs _ e W h hf).mono fun _ _ => nres_of) (fun _ A qs W e hf h => (implSafeVals_any n view A _ qs _ e W h hf).mono fun _ _ => nres_of)

theorem closed : joinedFacts Try.prog 20 Try.f20 Rows.fnExactSafeValsSpec Rows.fnExactSafeValsRow = true := by
  unfold joinedFacts
  rw [D.make_is, D.enter_is, D.final_is]
  kernel_rfl

set_option maxRecDepth 100000 in
theorem lifted (os : Os) (started : os.Started) (H : Type) (enc : TypeId × Value → H) :
    ReturnsInHanded {} Try.checked os 20 .any (Rows.fnExactSafeValsSpec.pre6 enc Try.prog Try.f20 Rows.fnExactSafeValsRow.domain false) (Rows.fnExactSafeValsSpec.post enc Try.prog Try.f20 false true false false) := by
  refine returnsInHanded_of_change (C := Try.checked) D.own started (by kernel_rfl) Try.func20
    (ChangeSpec.witness6 (enc := enc) (C := Try.checked) false ⟨#[], #[.int .i64 0, .int .i64 0, .slice none 0 0], []⟩ 8 (by kernel_rfl) (by kernel_rfl) (by kernel_rfl) (by kernel_rfl)) ?_
  intro W base args ds gs before hval0 hW hcnd _
  have hval : ∀ (j : Nat) t v, Try.f20.params[j]? = some t → args[j]? = some v → Value.okWide Try.prog W .any base t v := hval0
  have hW' := hW
  obtain ⟨p, q, hA0, hV, rfl, hfz, hnd⟩ := hW
  have hA : DataW.TrodAll enc Try.prog W 0 (fun _ => true) true Try.f20.params.toList args.toList ds p := hA0
  rw [Try.params20] at hA hval
  obtain ⟨v0, v1, v2, d0, d1, d2, p0, p1, p2, rfl, rfl, rfl, h0, h1, h2⟩ := trodAll_three hA
  obtain ⟨n, rfl, rfl, rfl, wn⟩ := open_int Try.underlying3 (hval 0 3 v0 rfl rfl) h0
  obtain ⟨view, rfl, rfl, rfl, wview⟩ := open_int Try.underlying3 (hval 1 3 v1 rfl rfl) h1
  obtain ⟨a2, len2, cap2, rfl⟩ := okWide_slice Try.underlying56 (hval 2 56 v2 rfl rfl)
  obtain ⟨fuel2, hf2⟩ := h2
  obtain ⟨Aps, cps, ps, hcs2, hmps, hvps, hrps⟩ := open_reports hf2
  have hv2 : (Value.slice a2 len2 cap2) = .slice Aps ps.length cps := by simpa [Value.cells] using hcs2
  rw [hv2] at hW' ⊢
  refine (walk n view Aps cps ps W hmps hvps hrps).mono fun e W' ⟨he, hb⟩ => ⟨_, he, law_post D.laidOut hW' hb rfl (by kernel_rfl) Try.underlying4 (by kernel_rfl) rfl⟩

theorem over : Rows.fnExactSafeValsRow.holds Try.pinned (OpenSpec.ofChange Rows.fnExactSafeValsSpec) :=
  OpenClaim.holds_of_wide 20 Try.f20 rfl rfl rfl rfl rfl rfl rfl ⟨rfl, rfl, rfl, rfl, rfl⟩ rfl rfl rfl rfl rfl (by kernel_rfl) Try.func20 closed
    (of_decide_eq_true (by kernel_rfl)) (by unfold Func.isWrapper; first | (rw [if_pos (by decide +kernel)]; kernel_rfl) | (rw [if_neg (by decide +kernel)]; exact ⟨rfl, rfl⟩))
    (fun os started H enc _ => lifted os started H enc)

theorem proved : Rows.FnExactSafeValsSaid :=
  over
end Go.Proofs.Ytikhakmddcmbpaa.fnExactSafeVals
