/-
  Proved here: for whatever numbers and list of reports, ReportBy of the program answers as ReportBy of the model, the list reads afterwards as before, and each answer owns its memory. No condition.
-/
import Derived.Test.YtcfjmhebhhekbaaRows
import Derived.Test.YtcfjmhebhhekbaaDoor
import Derived.Test.YtcfjmhebhhekbaaLiftR
import Derived.Test.YtcfjmhebhhekbaaRLaw
import Derived.Test.YtcfjmhebhhekbaaRSpec
set_option linter.unusedVariables false
set_option maxRecDepth 100000
namespace Go.Proofs.Ytcfjmhebhhekbaa.fnExactReportBy
open Go.RowKit Go.ChangeShapes Go.WideShapes Go.Proofs.Ytcfjmhebhhekbaa.B Go.Proofs.Ytcfjmhebhhekbaa.V

theorem tv_same {ps qs : List Pp} (h : rl qs = rl ps) : ∀ k, tv qs k = tv ps k
  | 0 => rfl
  | k + 1 => by
    have e : (qs.getD k zP).r = (ps.getD k zP).r := by rw [← rl_at, h, rl_at]
    simp only [tv, tv_same h k, e]
set_option maxHeartbeats 3200000 in
theorem walk0 (n view from_ : Int) (A : Option Addr) (c : Nat) (ps : List Pp) (f v x : Int) (vs : List (Int × Int)) (q : Bool) (w : World) (hm : ps.length ≤ maxLen) (hv : ∀ i, i < ps.length → (ps.getD i zP).r.vs.length ≤ maxLen) (hr : RdR w w.heap.size A ps)
    (hxl : Few ps → vs.length ≤ 1048576)
    (hsp : Few ps → ∀ (A : Option Addr) (qs : List Pp) (W : World), rl qs = rl ps → Few qs → RdR W W.heap.size A qs → Calls Try.prog 36 #[.int .i64 n, .int .i64 view, .slice A qs.length qs.length, .int .i64 from_] W fun e w' => ∃ B d, e = .returned (.tuple #[.agg #[.int .i64 f, .int .i64 v, .int .i64 x, .slice B vs.length d], .bool q]) ∧ Rd w' w'.heap.size B vs ∧ Below W.heap.size W w')
    (him : Few ps → ∀ (A : Option Addr) (qs : List Pp) (W : World), rl qs = rl ps → Few qs → RdR W W.heap.size A qs → Calls Try.prog 25 #[.int .i64 n, .int .i64 view, .slice A qs.length qs.length, .int .i64 from_] W fun e w' => ∃ B d, e = .returned (.tuple #[.agg #[.int .i64 f, .int .i64 v, .int .i64 x, .slice B vs.length d], .bool q]) ∧ w'.ownsRow W.heap.size 25 2 (.slice B vs.length d) vs.length (vcells vs) ∧ Below W.heap.size W w') :
    Calls Try.prog 7 #[.int .i64 n, .int .i64 view, .slice A ps.length c, .int .i64 from_] w fun e w' => e = .returned (.bool true) ∧ Below w.heap.size w w' := by
  by_cases hn : (1048576 : Int) < (ps.length : Int) + (tv ps ps.length : Int)
  · have H1 := Lib.hid (szR_big A c ps w hr hm hv hn)
    clear hsp him hxl
    go_enter Try.func7, Try.ntmps7
    go_wp2_with fail
    refine H1.out.mono ?_
    rintro e w1 ⟨rfl, hb1⟩
    go_wp2
    go_ret
    exact ⟨rfl, hb1⟩
  · have hfew : Few ps := few_of (by omega)
    have HSP := Lib.hid (hsp hfew); clear hsp
    have HIM := Lib.hid (him hfew); clear him
    have hxl := hxl hfew
    have HF := Lib.hid hfew
    have H1 := Lib.hid (szR_small A c ps w hr (by omega))
    have hnq : (q != q) = false := by simp
    have hnx : ((1 + 2 * (vs.length : Int)) != (1 + 2 * (vs.length : Int))) = false := by simp
    obtain ⟨m, hvm⟩ : ∃ m, ps.length = m := ⟨_, rfl⟩
    have HT := Lib.hid (fun (A : Option Addr) (c : Nat) (W : World) (h : RdR W W.heap.size A ps) => toReportS_any A c ps W h hfew.1 hfew.2)
    have HE := Lib.hid (fun (A C : Option Addr) (c d : Nat) (us qs : List Pp) (h1 : rl us = rl ps) (h2 : rl qs = rl ps) (W : World) (h3 : RdR W W.heap.size A us) (h4 : RdR W W.heap.size C qs) => eqReportS_same A C c d us qs (h2.trans h1.symm) W h3 h4 (HF.out.same h1).1.1 (HF.out.same h1).1.2)
    have HFS := Lib.hid (fun (us : List Pp) (h1 : rl us = rl ps) => HF.out.same h1)
    have HTV : Hid (∀ us : List Pp, rl us = rl ps → kR us 1 m ≤ 16777216) := fun us h1 => by
      have := tv_same h1 m
      simp only [kR]; rw [hvm] at hn; omega
    rw [hvm] at H1 HT HFS hn hm ⊢
    have HR := Lib.hid hr
    have HV := Lib.hid hvm
    clear hfew HF hn hm hv hr hvm
    go_enter Try.func7, Try.ntmps7
    go_wp2_with fail
    refine H1.out.mono ?_
    rintro e w1 ⟨⟨y, hy0, hy1, -, rfl⟩, hb1⟩
    have hB1 := Lib.hid hb1
    have Z1 := Lib.hid hb1.size
    clear hb1 H1
    go_wp2_with fail
    refine (HT.out A c w1 ((HR.out.below hB1.out).more hB1.out.size)).mono ?_
    rintro e w2 ⟨g2, cs2, q2, rfl, hz2, hk2, hq2, hb2⟩
    have he2 := Lib.hid (hq2.same HV.out)
    have hs2 := Lib.hid (hq2.rd hk2)
    have hl2 : q2.length = m := (HFS.out q2 he2.out).2
    clear hk2 hq2 hz2
    have hB2 := Lib.hid (on_ hB1.out hb2)
    have Z2 := Lib.hid hb2.size
    clear hb2 hB1
    go_wp2_with fail
    refine (show Calls _ _ #[.int .i64 n, .int .i64 view, .slice (some ⟨g2, 0, none⟩) m m, .int .i64 from_] _ _ from by rw [← hl2]; exact HSP.out (some ⟨g2, 0, none⟩) q2 w2 he2.out (HFS.out q2 he2.out).1 hs2.out).mono ?_
    rintro e w3 ⟨B3, d3, rfl, hr3, hb3⟩
    have hr3 := Lib.hid hr3
    clear hs2 he2 hl2
    have hB3 := Lib.hid (on_ hB2.out hb3)
    have Z3 := Lib.hid hb3.size
    clear hb3 hB2
    have kW4 := Lib.hid (Blk.new w3 28 #[.int .i64 f, .int .i64 v, .int .i64 x, .slice B3 vs.length d3])
    have hb4 := Lib.hid (up_ (Below.refl w3.heap.size w3) (.cells #[.int .i64 f, .int .i64 v, .int .i64 x, .slice B3 vs.length d3] 28))
    go_wp2_with fail
    have kW4 := kW4.out
    have hb4 := hb4.out
    generalize w3.alloc (.cells #[.int .i64 f, .int .i64 v, .int .i64 x, .slice B3 vs.length d3] 28) = w4 at *
    have zlt4 := Lib.hid kW4.lt
    have hr4 := Lib.hid (hr3.out.on hb4)
    have kW4 := Lib.hid kW4
    clear hr3
    have hB4 := Lib.hid (on_ hB3.out hb4)
    have Z4 := Lib.hid hb4.size
    clear hb4 hB3
    have hE4 := Lib.hid (Below.refl w4.heap.size w4)
    refine (HT.out A c w4 ((HR.out.below hB4.out).more hB4.out.size)).mono ?_
    rintro e w5 ⟨g5, cs5, q5, rfl, hz5, hk5, hq5, hb5⟩
    have he5 := Lib.hid (hq5.same HV.out)
    have hs5 := Lib.hid (hq5.rd hk5)
    have hl5 : q5.length = m := (HFS.out q5 he5.out).2
    have mk5 := Lib.hid (hq5.own0 hk5 hz5 1)
    clear hk5 hq5 hz5
    have hB5 := Lib.hid (on_ hB4.out hb5)
    have hE5 := Lib.hid (on_ hE4.out hb5)
    have Z5 := Lib.hid hb5.size
    clear hb5 hB4 hE4
    have hX5 := Lib.hid (Below.refl w5.heap.size w5)
    go_wp2_with fail
    refine (show Calls _ _ #[.int .i64 n, .int .i64 view, .slice (some ⟨g5, 0, none⟩) m m, .int .i64 from_] _ _ from by rw [← hl5]; exact HIM.out (some ⟨g5, 0, none⟩) q5 w5 he5.out (HFS.out q5 he5.out).1 hs5.out).mono ?_
    rintro e w6 ⟨B6, d6, rfl, own6, hb6⟩
    have hr6 := Lib.hid (RdIn.of_own own6)
    have own6 := Lib.hid (OwnVt.of_own own6 1)
    have hB6 := Lib.hid (on_ hB5.out hb6)
    have hE6 := Lib.hid (on_ hE5.out hb6)
    have hX6 := Lib.hid (on_ hX5.out hb6)
    have Z6 := Lib.hid hb6.size
    clear hb6 hB5 hE5 hX5
    have kG7 := Lib.hid (Blk.new w6 28 #[.int .i64 f, .int .i64 v, .int .i64 x, .slice B6 vs.length d6])
    have hb7 := Lib.hid (up_ (Below.refl w6.heap.size w6) (.cells #[.int .i64 f, .int .i64 v, .int .i64 x, .slice B6 vs.length d6] 28))
    have rW := ((kW4.out.on hE6.out).alloc (.cells #[.int .i64 f, .int .i64 v, .int .i64 x, .slice B6 vs.length d6] 28)).rule
    go_wp2_with fail
    clear rW
    have kG7 := kG7.out
    have hb7 := hb7.out
    generalize w6.alloc (.cells #[.int .i64 f, .int .i64 v, .int .i64 x, .slice B6 vs.length d6] 28) = w7 at *
    have zlt7 := Lib.hid kG7.lt
    have hr7 := Lib.hid (hr6.out.on hb7)
    have own7 := Lib.hid (own6.out.on hb7)
    have kG7 := Lib.hid kG7
    clear hr6 own6
    have hB7 := Lib.hid (on_ hB6.out hb7)
    have hE7 := Lib.hid (on_ hE6.out hb7)
    have hX7 := Lib.hid (on_ hX6.out hb7)
    have Z7 := Lib.hid hb7.size
    clear hb7 hB6 hE6 hX6
    have hG7 := Lib.hid (Mid.refl w4.heap.size w5.heap.size w7)
    refine (eqReport_same f v x B6 B3 d6 d3 vs w7 (hr7.out.rd) (hr4.out.on hE7.out) hxl).mono ?_
    rintro e w8 ⟨rfl, hb8⟩
    have hB8 := Lib.hid (on_ hB7.out hb8)
    have hE8 := Lib.hid (on_ hE7.out hb8)
    have hX8 := Lib.hid (on_ hX7.out hb8)
    have hG8 := Lib.hid (hG7.out.trans (Mid.of_below hb8))
    have Z8 := Lib.hid hb8.size
    clear hb8 hB7 hE7 hX7 hG7
    go_wp2_with fail
    refine (HT.out A c w8 ((HR.out.below hB8.out).more hB8.out.size)).mono ?_
    rintro e w9 ⟨g9, cs9, q9, rfl, hz9, hk9, hq9, hb9⟩
    have he9 := Lib.hid (hq9.same HV.out)
    have hs9 := Lib.hid (hq9.rd hk9)
    have hl9 : q9.length = m := (HFS.out q9 he9.out).2
    clear hk9 hq9 hz9
    have hB9 := Lib.hid (on_ hB8.out hb9)
    have hE9 := Lib.hid (on_ hE8.out hb9)
    have hX9 := Lib.hid (on_ hX8.out hb9)
    have hG9 := Lib.hid (hG8.out.trans (Mid.of_below hb9))
    have Z9 := Lib.hid hb9.size
    clear hb9 hB8 hE8 hX8 hG8
    have hs59 := Lib.hid (hs5.out.on hX9.out)
    go_wp2_with fail
    refine (show Calls _ _ #[.slice (some ⟨g5, 0, none⟩) m m, .slice (some ⟨g9, 0, none⟩) m m] _ _ from by
      have := HE.out (some ⟨g5, 0, none⟩) (some ⟨g9, 0, none⟩) m m q5 q9 he5.out he9.out w9 hs59.out hs9.out
      rwa [hl5] at this).mono ?_
    rintro e w10 ⟨rfl, hb10⟩
    clear hs59 hs9 he9 hl9
    have hB10 := Lib.hid (on_ hB9.out hb10)
    have hE10 := Lib.hid (on_ hE9.out hb10)
    have hX10 := Lib.hid (on_ hX9.out hb10)
    have hG10 := Lib.hid (hG9.out.trans (Mid.of_below hb10))
    have Z10 := Lib.hid hb10.size
    clear hb10 hB9 hE9 hX9 hG9
    have mk10 := Lib.hid (mk5.out.on hX10.out)
    have HMK : Hid (Calls Try.prog 33 #[.slice (some ⟨g5, 0, none⟩) m m, .int .i64 1] w10 fun e w' => e = .returned (.int .i64 (kR q5 1 m)) ∧ Mid w4.heap.size w5.heap.size w10 w') := by
      have := Own0.mark m mk10.out (HFS.out q5 he5.out).1 (by omega) (by rw [hl5]; exact HTV.out q5 he5.out)
      rw [hl5] at this
      exact this.mono fun e w' h => ⟨h.1, h.2.2⟩
    obtain ⟨ky, hky⟩ : ∃ ky, kR q5 1 m = ky := ⟨_, rfl⟩
    have hk0 : 1 ≤ ky := by rw [← hky]; exact kR_ge q5 1 m
    rw [hky] at HMK
    clear mk10 mk5 hky
    go_wp2_with fail
    refine HMK.out.mono ?_
    rintro e w11 ⟨rfl, hm11⟩
    clear HMK
    have hB11 := Lib.hid (hB10.out.trans (hm11.low (by have := Z1.out; have := Z2.out; have := Z3.out; have := Z4.out; have := Z5.out; have := Z6.out; have := Z7.out; have := Z8.out; have := Z9.out; have := Z10.out; omega) (by have := Z1.out; have := Z2.out; have := Z3.out; have := Z4.out; have := Z5.out; have := Z6.out; have := Z7.out; have := Z8.out; have := Z9.out; have := Z10.out; omega)))
    have hE11 := Lib.hid (hE10.out.trans (hm11.low (by have := Z1.out; have := Z2.out; have := Z3.out; have := Z4.out; have := Z5.out; have := Z6.out; have := Z7.out; have := Z8.out; have := Z9.out; have := Z10.out; omega) (by have := Z1.out; have := Z2.out; have := Z3.out; have := Z4.out; have := Z5.out; have := Z6.out; have := Z7.out; have := Z8.out; have := Z9.out; have := Z10.out; omega)))
    have hG11 := Lib.hid (hG10.out.trans (hm11.wide (by have := Z1.out; have := Z2.out; have := Z3.out; have := Z4.out; have := Z5.out; have := Z6.out; have := Z7.out; have := Z8.out; have := Z9.out; have := Z10.out; omega) (by have := Z1.out; have := Z2.out; have := Z3.out; have := Z4.out; have := Z5.out; have := Z6.out; have := Z7.out; have := Z8.out; have := Z9.out; have := Z10.out; omega)))
    have Z11 := Lib.hid hm11.size
    clear hm11 hB10 hE10 hX10 hG10
    have rW := (kW4.out.on hE11.out).rule
    have rG := (hG11.out.blk kG7.out (.inr (by have := Z1.out; have := Z2.out; have := Z3.out; have := Z4.out; have := Z5.out; have := Z6.out; have := Z7.out; have := Z8.out; have := Z9.out; have := Z10.out; have := Z11.out; omega))).rule
    go_wp2_with fail
    refine (eqReport_same f v x B6 B3 d6 d3 vs w11 ((hr7.out.mid hG11.out (.inr (Nat.le_refl _))).rd) (hr4.out.on hE11.out) hxl).mono ?_
    rintro e w12 ⟨rfl, hb12⟩
    clear rW rG
    have hB12 := Lib.hid (on_ hB11.out hb12)
    have hE12 := Lib.hid (on_ hE11.out hb12)
    have hG12 := Lib.hid (hG11.out.trans (Mid.of_below hb12))
    have Z12 := Lib.hid hb12.size
    clear hb12 hB11 hE11 hG11
    have rG := (hG12.out.blk kG7.out (.inr (by have := Z1.out; have := Z2.out; have := Z3.out; have := Z4.out; have := Z5.out; have := Z6.out; have := Z7.out; have := Z8.out; have := Z9.out; have := Z10.out; have := Z11.out; have := Z12.out; omega))).rule
    have HMG : Hid (Calls Try.prog 34 #[.agg #[.int .i64 f, .int .i64 v, .int .i64 x, .slice B6 vs.length d6], .int .i64 1] w12 fun e w' => e = .returned (.int .i64 (1 + 2 * (vs.length : Int))) ∧ OwnVt w' w5.heap.size w6.heap.size B6 vs.length 1 true ∧ Mid w5.heap.size w6.heap.size w12 w') :=
      OwnVt.mark f v x 1 d6 (own7.out.mid hG12.out (.inr (Nat.le_refl _))) (by have := Z1.out; have := Z2.out; have := Z3.out; have := Z4.out; have := Z5.out; have := Z6.out; have := Z7.out; have := Z8.out; have := Z9.out; have := Z10.out; have := Z11.out; have := Z12.out; omega) hxl (by omega) (by omega)
    have kG12 := Lib.hid (hG12.out.blk kG7.out (.inr (by have := Z1.out; have := Z2.out; have := Z3.out; have := Z4.out; have := Z5.out; have := Z6.out; have := Z7.out; have := Z8.out; have := Z9.out; have := Z10.out; have := Z11.out; have := Z12.out; omega)))
    go_wp2_with fail
    refine HMG.out.mono ?_
    rintro e w13 ⟨rfl, own13, hm13⟩
    have own13 := Lib.hid own13
    have kG13 := Lib.hid (hm13.blk kG12.out (.inr (Nat.le_refl _)))
    clear HMG rG kG12
    have hB13 := Lib.hid (hB12.out.trans (hm13.low (by have := Z1.out; have := Z2.out; have := Z3.out; have := Z4.out; have := Z5.out; have := Z6.out; have := Z7.out; have := Z8.out; have := Z9.out; have := Z10.out; have := Z11.out; have := Z12.out; omega) (by have := Z1.out; have := Z2.out; have := Z3.out; have := Z4.out; have := Z5.out; have := Z6.out; have := Z7.out; have := Z8.out; have := Z9.out; have := Z10.out; have := Z11.out; have := Z12.out; omega)))
    have hE13 := Lib.hid (hE12.out.trans (hm13.low (by have := Z1.out; have := Z2.out; have := Z3.out; have := Z4.out; have := Z5.out; have := Z6.out; have := Z7.out; have := Z8.out; have := Z9.out; have := Z10.out; have := Z11.out; have := Z12.out; omega) (by have := Z1.out; have := Z2.out; have := Z3.out; have := Z4.out; have := Z5.out; have := Z6.out; have := Z7.out; have := Z8.out; have := Z9.out; have := Z10.out; have := Z11.out; have := Z12.out; omega)))
    have Z13 := Lib.hid hm13.size
    clear hm13 hB12 hE12 hG12
    have hK13 := Lib.hid (Below.refl w13.heap.size w13)
    have rG := kG13.out.rule
    go_wp2_with fail
    refine (OwnVt.held f v x 1 d6 (own13.out.on hK13.out) hxl (by omega) (by omega)).mono ?_
    rintro e w14 ⟨rfl, hb14⟩
    clear rG
    have hB14 := Lib.hid (on_ hB13.out hb14)
    have hE14 := Lib.hid (on_ hE13.out hb14)
    have hK14 := Lib.hid (on_ hK13.out hb14)
    have Z14 := Lib.hid hb14.size
    clear hb14 hB13 hE13 hK13
    go_wp2_with fail
    refine (HT.out A c w14 ((HR.out.below hB14.out).more hB14.out.size)).mono ?_
    rintro e w15 ⟨g15, cs15, q15, rfl, hz15, hk15, hq15, hb15⟩
    have he15 := Lib.hid (hq15.same HV.out)
    have hs15 := Lib.hid (hq15.rd hk15)
    have hl15 : q15.length = m := (HFS.out q15 he15.out).2
    clear hk15 hq15 hz15
    have hB15 := Lib.hid (on_ hB14.out hb15)
    have hE15 := Lib.hid (on_ hE14.out hb15)
    have hK15 := Lib.hid (on_ hK14.out hb15)
    have Z15 := Lib.hid hb15.size
    clear hb15 hB14 hE14 hK14
    go_wp2_with fail
    refine (show Calls _ _ #[.int .i64 n, .int .i64 view, .slice (some ⟨g15, 0, none⟩) m m, .int .i64 from_] _ _ from by rw [← hl15]; exact HIM.out (some ⟨g15, 0, none⟩) q15 w15 he15.out (HFS.out q15 he15.out).1 hs15.out).mono ?_
    rintro e w16 ⟨B16, d16, rfl, own16, hb16⟩
    have hr16 := Lib.hid (RdIn.of_own own16)
    clear own16 hs15 he15 hl15
    have hB16 := Lib.hid (on_ hB15.out hb16)
    have hE16 := Lib.hid (on_ hE15.out hb16)
    have hK16 := Lib.hid (on_ hK15.out hb16)
    have Z16 := Lib.hid hb16.size
    clear hb16 hB15 hE15 hK15
    have kH17 := Lib.hid (Blk.new w16 28 #[.int .i64 f, .int .i64 v, .int .i64 x, .slice B16 vs.length d16])
    have hb17 := Lib.hid (up_ (Below.refl w16.heap.size w16) (.cells #[.int .i64 f, .int .i64 v, .int .i64 x, .slice B16 vs.length d16] 28))
    have rW := ((kW4.out.on hE16.out).alloc (.cells #[.int .i64 f, .int .i64 v, .int .i64 x, .slice B16 vs.length d16] 28)).rule
    go_wp2_with fail
    clear rW
    have kH17 := kH17.out
    have hb17 := hb17.out
    generalize w16.alloc (.cells #[.int .i64 f, .int .i64 v, .int .i64 x, .slice B16 vs.length d16] 28) = w17 at *
    have zlt17 := Lib.hid kH17.lt
    have hr17 := Lib.hid (hr16.out.on hb17)
    have kH17 := Lib.hid kH17
    clear hr16
    have hB17 := Lib.hid (on_ hB16.out hb17)
    have hE17 := Lib.hid (on_ hE16.out hb17)
    have hK17 := Lib.hid (on_ hK16.out hb17)
    have Z17 := Lib.hid hb17.size
    clear hb17 hB16 hE16 hK16
    refine (eqReport_same f v x B16 B3 d16 d3 vs w17 (hr17.out.rd) (hr4.out.on hE17.out) hxl).mono ?_
    rintro e w18 ⟨rfl, hb18⟩
    have hB18 := Lib.hid (on_ hB17.out hb18)
    have hE18 := Lib.hid (on_ hE17.out hb18)
    have hK18 := Lib.hid (on_ hK17.out hb18)
    have Z18 := Lib.hid hb18.size
    clear hb18 hB17 hE17 hK17
    have rG := (kG13.out.on hK18.out).rule
    go_wp2_with fail
    refine (OwnVt.held f v x 1 d6 (own13.out.on hK18.out) hxl (by omega) (by omega)).mono ?_
    rintro e w19 ⟨rfl, hb19⟩
    clear rG
    have hB19 := Lib.hid (on_ hB18.out hb19)
    have hE19 := Lib.hid (on_ hE18.out hb19)
    have hK19 := Lib.hid (on_ hK18.out hb19)
    have Z19 := Lib.hid hb19.size
    clear hb19 hB18 hE18 hK18
    go_wp2
    go_ret
    exact ⟨rfl, hB19.out⟩
theorem by_few (n view from_ : Int) (ps : List Pp) (h : Few ps) : (byT n view (rl ps) from_).1.vs.length ≤ 1048576 := by
  unfold byT
  split
  · split
    · rename_i r hr
      obtain ⟨i, hi, rfl⟩ := mem_getDR (List.mem_of_find?_eq_some hr)
      rw [rl_at]
      exact h.2 i (by rw [rl_len] at hi; exact hi)
    · simp [zR]
  · simp [zR]
theorem walk (n view from_ : Int) (A : Option Addr) (c : Nat) (ps : List Pp) (w : World) (hm : ps.length ≤ maxLen) (hv : ∀ i, i < ps.length → (ps.getD i zP).r.vs.length ≤ maxLen) (hr : RdR w w.heap.size A ps) :
    Calls Try.prog 7 #[.int .i64 n, .int .i64 view, .slice A ps.length c, .int .i64 from_] w fun e w' => e = .returned (.bool true) ∧ Below w.heap.size w w' :=
  walk0 n view from_ A c ps (byT n view (rl ps) from_).1.f (byT n view (rl ps) from_).1.v (byT n view (rl ps) from_).1.x (byT n view (rl ps) from_).1.vs (byT n view (rl ps) from_).2 w hm hv hr (by_few n view from_ ps) (fun _ A qs W e hf h => specBy_any n view from_ A _ qs _ e W h hf (Nat.le_refl _)) (fun _ A qs W e hf h => implBy_any n view from_ A _ qs _ e W h hf)

theorem closed : joinedFacts Try.prog 7 Try.f7 Rows.fnExactReportBySpec Rows.fnExactReportByRow = true := by
  unfold joinedFacts
  rw [D.make_is, D.enter_is, D.final_is]
  kernel_rfl

set_option maxRecDepth 100000 in
theorem lifted (os : Os) (started : os.Started) (H : Type) (enc : TypeId × Value → H) :
    ReturnsInHanded {} Try.checked os 7 .any (Rows.fnExactReportBySpec.pre6 enc Try.prog Try.f7 Rows.fnExactReportByRow.domain false) (Rows.fnExactReportBySpec.post enc Try.prog Try.f7 false true false false) := by
  refine returnsInHanded_of_change (C := Try.checked) D.own started (by kernel_rfl) Try.func7
    (ChangeSpec.witness6 (enc := enc) (C := Try.checked) false ⟨#[], #[.int .i64 0, .int .i64 0, .slice none 0 0, .int .i64 0], []⟩ 8 (by kernel_rfl) (by kernel_rfl) (by kernel_rfl) (by kernel_rfl)) ?_
  intro W base args ds gs before hval0 hW hcnd _
  have hval : ∀ (j : Nat) t v, Try.f7.params[j]? = some t → args[j]? = some v → Value.okWide Try.prog W .any base t v := hval0
  have hW' := hW
  obtain ⟨p, q, hA0, hV, rfl, hfz, hnd⟩ := hW
  have hA : DataW.TrodAll enc Try.prog W 0 (fun _ => true) true Try.f7.params.toList args.toList ds p := hA0
  rw [Try.params7] at hA hval
  obtain ⟨v0, v1, v2, v3, d0, d1, d2, d3, p0, p1, p2, p3, rfl, rfl, rfl, h0, h1, h2, h3⟩ := trodAll_four hA
  obtain ⟨n, rfl, rfl, rfl, wn⟩ := open_int Try.underlying3 (hval 0 3 v0 rfl rfl) h0
  obtain ⟨view, rfl, rfl, rfl, wview⟩ := open_int Try.underlying3 (hval 1 3 v1 rfl rfl) h1
  obtain ⟨a2, len2, cap2, rfl⟩ := okWide_slice Try.underlying52 (hval 2 52 v2 rfl rfl)
  obtain ⟨fuel2, hf2⟩ := h2
  obtain ⟨Aps, cps, ps, hcs2, hmps, hvps, hrps⟩ := open_reports hf2
  have hv2 : (Value.slice a2 len2 cap2) = .slice Aps ps.length cps := by simpa [Value.cells] using hcs2
  rw [hv2] at hW' ⊢
  obtain ⟨from_, rfl, rfl, rfl, wfrom_⟩ := open_int Try.underlying3 (hval 3 3 v3 rfl rfl) h3
  refine (walk n view from_ Aps cps ps W hmps hvps hrps).mono fun e W' ⟨he, hb⟩ => ⟨_, he, law_post D.laidOut hW' hb rfl (by kernel_rfl) Try.underlying4 (by kernel_rfl) rfl⟩

theorem over : Rows.fnExactReportByRow.holds Try.pinned (OpenSpec.ofChange Rows.fnExactReportBySpec) :=
  OpenClaim.holds_of_wide 7 Try.f7 rfl rfl rfl rfl rfl rfl rfl ⟨rfl, rfl, rfl, rfl, rfl⟩ rfl rfl rfl rfl rfl (by kernel_rfl) Try.func7 closed
    (of_decide_eq_true (by kernel_rfl)) (by unfold Func.isWrapper; first | (rw [if_pos (by decide +kernel)]; kernel_rfl) | (rw [if_neg (by decide +kernel)]; exact ⟨rfl, rfl⟩))
    (fun os started H enc _ => lifted os started H enc)

theorem proved : Rows.FnExactReportBySaid :=
  over
end Go.Proofs.Ytcfjmhebhhekbaa.fnExactReportBy
