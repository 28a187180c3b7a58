/-
  Proved here: for all pairs of messages, MsgCmp of the program answers as MsgCmp of the model, and the messages read afterwards as before. No condition.
-/
import Derived.Test.YtbgkjhfhcaidcaaRows
import Derived.Test.YtbgkjhfhcaidcaaSteps
import Derived.Test.YtbgkjhfhcaidcaaMsgCmp
set_option linter.unusedVariables false
namespace Go.Proofs.Ytbgkjhfhcaidcaa.fnExactMsgCmp
open Go.RowKit Go.ChangeShapes Go.WideShapes Go.Proofs.Ytbgkjhfhcaidcaa.B Go.Proofs.Ytbgkjhfhcaidcaa.V

theorem sz2_big (k v x a b : Int) (A : Option Addr) (c : Nat) (vs : List (Int × Int)) (left : Int) (w : World) (hm : vs.length ≤ maxLen) (h0 : 0 ≤ left) (h1 : left ≤ 1048576) (hn : left < vs.length) :
    Calls Try.prog 20 #[.agg #[.int .i64 k, .int .i64 v, .int .i64 x, .int .i64 a, .int .i64 b, .slice A vs.length c], .int .i64 left] w fun e w' => e = .returned (.int .i64 (-1)) ∧ Below w.heap.size w w' := by
  have := szMsg_any k v x a b A vs.length c left w hm h0 h1
  rwa [if_pos hn] at this
theorem sz2_small (k v x a b : Int) (A : Option Addr) (c : Nat) (vs : List (Int × Int)) (left : Int) (w : World) (hm : vs.length ≤ maxLen) (h0 : 0 ≤ left) (h1 : left ≤ 1048576) (hn : ¬ left < vs.length) :
    Calls Try.prog 20 #[.agg #[.int .i64 k, .int .i64 v, .int .i64 x, .int .i64 a, .int .i64 b, .slice A vs.length c], .int .i64 left] w fun e w' => e = .returned (.int .i64 (left - vs.length)) ∧ Below w.heap.size w w' := by
  have := szMsg_any k v x a b A vs.length c left w hm h0 h1
  rwa [if_neg hn] at this

set_option maxHeartbeats 1600000 in
theorem walk (k v x a b : Int) (A : Option Addr) (c : Nat) (vs : List (Int × Int)) (k2 v2 x2 a2 b2 : Int) (A2 : Option Addr) (c2 : Nat) (us : List (Int × Int)) (w : World) (hm : vs.length ≤ maxLen) (hr : Rd w w.heap.size A vs) (hm2 : us.length ≤ maxLen) (hr2 : Rd w w.heap.size A2 us) :
    Calls Try.prog 8 #[.agg #[.int .i64 k, .int .i64 v, .int .i64 x, .int .i64 a, .int .i64 b, .slice A vs.length c], .agg #[.int .i64 k2, .int .i64 v2, .int .i64 x2, .int .i64 a2, .int .i64 b2, .slice A2 us.length c2]] w fun e w' => e = .returned (.bool true) ∧ Below w.heap.size w w' := by
  by_cases hn : (1048576 : Int) < vs.length
  · go_enter Try.func8, Try.ntmps8
    go_wp2_with fail
    refine (szMsg_big k v x a b A c vs _ hm hn).mono ?_
    rintro e w1 ⟨rfl, hb1⟩
    go_wp2
    go_ret
    exact ⟨rfl, on_ (up_ (up_ (Below.refl _ _) _) _) hb1⟩
  have hn' : vs.length ≤ 1048576 := by omega
  by_cases hn2 : (1048576 : Int) - vs.length < us.length
  · have hkn := Blk.new (w.alloc (.cells #[.int .i64 k, .int .i64 v, .int .i64 x, .int .i64 a, .int .i64 b, .slice A vs.length c] 33)) 33 #[.int .i64 k2, .int .i64 v2, .int .i64 x2, .int .i64 a2, .int .i64 b2, .slice A2 us.length c2]
    simp only [World.size_alloc] at hkn
    go_enter Try.func8, Try.ntmps8
    go_wp2_with fail
    refine (szMsg_small k v x a b A c vs _ hn').mono ?_
    rintro e w1 ⟨rfl, hb1⟩
    have hB1 := on_ (up_ (up_ (Below.refl w.heap.size w) _) _) hb1
    have hm1 := (hkn.on hb1).rule
    clear hkn hb1
    go_wp2_with fail
    refine (sz2_big k2 v2 x2 a2 b2 A2 c2 us _ _ hm2 (by omega) (by omega) hn2).mono ?_
    rintro e w2 ⟨rfl, hb2⟩
    have hB2 := on_ hB1 hb2
    go_wp2
    go_ret
    exact ⟨rfl, hB2⟩
  · have hn2' : us.length ≤ 1048576 := by omega
    have km0 := Blk.new w 33 #[.int .i64 k, .int .i64 v, .int .i64 x, .int .i64 a, .int .i64 b, .slice A vs.length c]
    have kn0 := Blk.new (w.alloc (.cells #[.int .i64 k, .int .i64 v, .int .i64 x, .int .i64 a, .int .i64 b, .slice A vs.length c] 33)) 33 #[.int .i64 k2, .int .i64 v2, .int .i64 x2, .int .i64 a2, .int .i64 b2, .slice A2 us.length c2]
    simp only [World.size_alloc] at kn0
    have hr0 := fun O O' => (hr.up O).up O'
    have HR := Lib.hid hr0; clear hr0 hr hm
    have hr0 := fun O O' => (hr2.up O).up O'
    have HR2 := Lib.hid hr0; clear hr0 hr2
    have hB0 := Below.refl w.heap.size w
    obtain ⟨q, hq⟩ : ∃ q, msgOkB k v x a b vs = q := ⟨_, rfl⟩
    obtain ⟨q2, hq2⟩ : ∃ q, msgOkB k2 v2 x2 a2 b2 us = q := ⟨_, rfl⟩
    have hsp := fun A c A2 c2 W h h2 => specMsgCmp_is q q2 k v x a b A c vs k2 v2 x2 a2 b2 A2 c2 us hq hq2 W h hn' h2 hn2'
    have him := fun A c A2 c2 W h h2 => implMsgCmp_is q q2 k v x a b A c vs k2 v2 x2 a2 b2 A2 c2 us hq hq2 W h hn' h2 hn2'
    generalize cmpR q q2 (msgBytesL k v x a b vs vs.length) (msgBytesL k2 v2 x2 a2 b2 us us.length) = res at *
    have HSP := Lib.hid hsp; clear hsp
    have HIM := Lib.hid him; clear him hq hq2
    go_enter Try.func8, Try.ntmps8
    go_wp2_with fail
    refine (szMsg_small k v x a b A c vs _ hn').mono ?_
    rintro e w1 ⟨rfl, hb1⟩
    have km1 := Blk.on (km0.alloc _) hb1
    have rm1 := km1.rule
    have zm1 := km1.lt
    have kn1 := Blk.on kn0 hb1
    have rn1 := kn1.rule
    have zn1 := kn1.lt
    have hB1 := on_ (up_ (up_ hB0 _) _) hb1
    have hr1 := (HR.out _ _).on hb1
    have hs1 := (HR2.out _ _).on hb1
    clear hb1 km0 kn0 hB0
    go_wp2_with fail
    refine (sz2_small k2 v2 x2 a2 b2 A2 c2 us _ _ hm2 (by omega) (by omega) (by omega)).mono ?_
    rintro e w2 ⟨rfl, hb2⟩
    have km2 := Blk.on km1 hb2
    have rm2 := km2.rule
    have zm2 := km2.lt
    have kn2 := Blk.on kn1 hb2
    have rn2 := kn2.rule
    have zn2 := kn2.lt
    have hB2 := on_ hB1 hb2
    have hr2 := Rd.on hr1 hb2
    have hs2 := Rd.on hs1 hb2
    clear hb2 km1 rm1 zm1 kn1 rn1 zn1 hB1 hr1 hs1
    go_wp2_with fail
    have drd : Rd w2.drew w2.drew.heap.size A vs := hr2
    have dsd : Rd w2.drew w2.drew.heap.size A2 us := hs2
    have dkm : Blk w2.drew _ _ _ := km2
    have dkn : Blk w2.drew _ _ _ := kn2
    have dB := hB2.drew
    go_region_held3 (fun w' => (∀ i, w'.cell? ⟨w.heap.size, i, none⟩ = (#[.int .i64 k, .int .i64 v, .int .i64 x, .int .i64 a, .int .i64 b, .slice A vs.length c] : Array Value)[i]?) ∧ (∀ i, w'.cell? ⟨w.heap.size + 1, i, none⟩ = (#[.int .i64 k2, .int .i64 v2, .int .i64 x2, .int .i64 a2, .int .i64 b2, .slice A2 us.length c2] : Array Value)[i]?))
      (first | exact ⟨km5.rule, kn5.rule⟩ | exact ⟨km4.rule, kn4.rule⟩ | exact ⟨km3.rule, kn3.rule⟩ | exact ⟨rm2, rn2⟩)
      (first
        | (go_at_call_of 22 (Value.slice A vs.length c); refine (toMsg_any k v x a b A c vs _ (by exact drd) hn').mono ?_; rintro e w3 ⟨g3, cs3, rfl, hg3, hq3, hp3, hb3⟩; have km3 := dkm.on hb3; have kn3 := dkn.on hb3; have hB3 := on_ dB hb3; have hr3 := drd.on hb3; have hs3 := dsd.on hb3; have hx3 := hp3.rd hq3 hq3.lt)
        | (go_at_call_of 22 (Value.slice A2 us.length c2); refine (toMsg_any k2 v2 x2 a2 b2 A2 c2 us _ (by exact hs3) hn2').mono ?_; rintro e w4 ⟨g4, cs4, rfl, hg4, hq4, hp4, hb4⟩; have km4 := km3.on hb4; have kn4 := kn3.on hb4; have hB4 := on_ hB3 hb4; have hr4 := hr3.on hb4; have hs4 := hs3.on hb4; have hx4 := hx3.on hb4; have hy4 := hp4.rd hq4 hq4.lt)
        | (go_at_call 35; refine (HSP.out _ _ _ _ _ (by exact hx4) (by exact hy4)).mono ?_; rintro e w5 ⟨rfl, hb5⟩; have km5 := km4.on hb5; have kn5 := kn4.on hb5; have hB5 := on_ hB4 hb5; have hr5 := hr4.on hb5; have hs5 := hs4.on hb5))
    have rm5 := km5.rule
    have rn5 := kn5.rule
    have zm5 := km5.lt
    have zn5 := kn5.lt
    clear rm2 rn2 zm2 zn2 km2 kn2 hB2 hr2 hs2 drd dsd dkm dkn dB km3 kn3 hB3 hr3 hs3 hx3 km4 kn4 hB4 hr4 hs4 hx4 hy4
    go_wp2_with fail
    refine (toMsg_any k v x a b A c vs _ hr5 hn').mono ?_
    rintro e w6 ⟨g6, cs6, rfl, hg6, hq6, hp6, hb6⟩
    have km6 := Blk.on km5 hb6
    have rm6 := km6.rule
    have zm6 := km6.lt
    have kn6 := Blk.on kn5 hb6
    have rn6 := kn6.rule
    have zn6 := kn6.lt
    have hB6 := on_ hB5 hb6
    have hr6 := Rd.on hr5 hb6
    have hs6 := Rd.on hs5 hb6
    have hx6 := hp6.rd hq6 hq6.lt
    clear hb6 km5 rm5 zm5 kn5 rn5 zn5 hB5 hr5 hs5
    clear hq6 hp6 hg6
    have kp0 := Blk.new w6 38 #[.int .i64 k, .int .i64 v, .int .i64 x, .int .i64 a, .int .i64 b, .slice (some ⟨g6, 0, none⟩) vs.length vs.length]
    go_wp2_with fail
    refine (toMsg_any k2 v2 x2 a2 b2 A2 c2 us _ (hs6.up _) hn2').mono ?_
    rintro e w7 ⟨g7, cs7, rfl, hg7, hq7, hp7, hb7⟩
    have km7 := Blk.on (km6.alloc _) hb7
    have rm7 := km7.rule
    have zm7 := km7.lt
    have kn7 := Blk.on (kn6.alloc _) hb7
    have rn7 := kn7.rule
    have zn7 := kn7.lt
    have kp7 := Blk.on kp0 hb7
    have rp7 := kp7.rule
    have zp7 := kp7.lt
    have hB7 := on_ (up_ hB6 _) hb7
    have hr7 := Rd.on (Rd.up hr6 _) hb7
    have hs7 := Rd.on (Rd.up hs6 _) hb7
    have hx7 := Rd.on (Rd.up hx6 _) hb7
    have hy7 := hp7.rd hq7 hq7.lt
    clear hb7 km6 rm6 zm6 kn6 rn6 zn6 kp0 hB6 hr6 hs6 hx6
    clear hq7 hp7 hg7
    have kq0 := Blk.new w7 38 #[.int .i64 k2, .int .i64 v2, .int .i64 x2, .int .i64 a2, .int .i64 b2, .slice (some ⟨g7, 0, none⟩) us.length us.length]
    go_wp2_with fail
    refine (HIM.out _ _ _ _ _ (hx7.up _) (hy7.up _)).mono ?_
    rintro e w8 ⟨rfl, hb8⟩
    have km8 := Blk.on (km7.alloc _) hb8
    have rm8 := km8.rule
    have zm8 := km8.lt
    have kn8 := Blk.on (kn7.alloc _) hb8
    have rn8 := kn8.rule
    have zn8 := kn8.lt
    have kp8 := Blk.on (kp7.alloc _) hb8
    have rp8 := kp8.rule
    have zp8 := kp8.lt
    have kq8 := Blk.on kq0 hb8
    have rq8 := kq8.rule
    have zq8 := kq8.lt
    have hB8 := on_ (up_ hB7 _) hb8
    have hr8 := Rd.on (Rd.up hr7 _) hb8
    have hs8 := Rd.on (Rd.up hs7 _) hb8
    have hx8 := Rd.on (Rd.up hx7 _) hb8
    have hy8 := Rd.on (Rd.up hy7 _) hb8
    clear hb8 km7 rm7 zm7 kn7 rn7 zn7 kp7 rp7 zp7 kq0 hB7 hr7 hs7 hx7 hy7
    have hne : (res != res) = false := by simp
    go_wp2
    go_region_held3 (fun w' => (∀ i, w'.cell? ⟨w6.heap.size, i, none⟩ = (#[.int .i64 k, .int .i64 v, .int .i64 x, .int .i64 a, .int .i64 b, .slice (some ⟨g6, 0, none⟩) vs.length vs.length] : Array Value)[i]?) ∧ (∀ i, w'.cell? ⟨w.heap.size, i, none⟩ = (#[.int .i64 k, .int .i64 v, .int .i64 x, .int .i64 a, .int .i64 b, .slice A vs.length c] : Array Value)[i]?))
      (first | exact ⟨kp10.rule, km10.rule⟩ | exact ⟨kp9.rule, km9.rule⟩ | exact ⟨rp8, rm8⟩)
      (first
        | (go_at_call 22; refine (toMsg_any k v x a b A c vs _ (by exact hr8) hn').mono ?_; rintro e w9 ⟨g9, cs9, rfl, hg9, hq9, hp9, hb9⟩; have kp9 : Blk w9 _ _ _ := Blk.on (w := w8.drew) kp8 hb9; have km9 : Blk w9 _ _ _ := Blk.on (w := w8.drew) km8 hb9; have kn9 : Blk w9 _ _ _ := Blk.on (w := w8.drew) kn8 hb9; have kq9 : Blk w9 _ _ _ := Blk.on (w := w8.drew) kq8 hb9; have hx9 := Rd.on (w := w8.drew) hx8 hb9; have hr9 := Rd.on (w := w8.drew) hr8 hb9; have hs9 := Rd.on (w := w8.drew) hs8 hb9; have hy9 := Rd.on (w := w8.drew) hy8 hb9; have hB9 := on_ hB8.drew hb9; have ht9 := hp9.rd hq9 hq9.lt)
        | (go_at_call 24; refine (eqMsg_same k v x a b _ _ _ _ vs _ (by exact hx9) (by exact ht9) hn').mono ?_; rintro e w10 ⟨rfl, hb10⟩; have kp10 := kp9.on hb10; have km10 := km9.on hb10; have kn10 := kn9.on hb10; have kq10 := kq9.on hb10; have hx10 := hx9.on hb10; have hr10 := hr9.on hb10; have hs10 := hs9.on hb10; have hy10 := hy9.on hb10; have hB10 := on_ hB9 hb10))
    have rp10 := kp10.rule
    have zp10 := kp10.lt
    have rm10 := km10.rule
    have zm10 := km10.lt
    have rn10 := kn10.rule
    have zn10 := kn10.lt
    have rq10 := kq10.rule
    have zq10 := kq10.lt
    clear rm8 rn8 rp8 rq8
    go_wp2
    go_region_held3 (fun w' => (∀ i, w'.cell? ⟨w7.heap.size, i, none⟩ = (#[.int .i64 k2, .int .i64 v2, .int .i64 x2, .int .i64 a2, .int .i64 b2, .slice (some ⟨g7, 0, none⟩) us.length us.length] : Array Value)[i]?) ∧ (∀ i, w'.cell? ⟨w.heap.size + 1, i, none⟩ = (#[.int .i64 k2, .int .i64 v2, .int .i64 x2, .int .i64 a2, .int .i64 b2, .slice A2 us.length c2] : Array Value)[i]?))
      (first | exact ⟨kq12.rule, kn12.rule⟩ | exact ⟨kq11.rule, kn11.rule⟩ | exact ⟨rq10, rn10⟩)
      (first
        | (go_at_call 22; refine (toMsg_any k2 v2 x2 a2 b2 A2 c2 us _ (by exact hs10) hn2').mono ?_; rintro e w11 ⟨g11, cs11, rfl, hg11, hq11, hp11, hb11⟩; have kq11 : Blk w11 _ _ _ := Blk.on (w := w10.drew) kq10 hb11; have kn11 : Blk w11 _ _ _ := Blk.on (w := w10.drew) kn10 hb11; have hy11 := Rd.on (w := w10.drew) hy10 hb11; have hs11 := Rd.on (w := w10.drew) hs10 hb11; have hB11 := on_ hB10.drew hb11; have ht11 := hp11.rd hq11 hq11.lt)
        | (go_at_call 24; refine (eqMsg_same k2 v2 x2 a2 b2 _ _ _ _ us _ (by exact hy11) (by exact ht11) hn2').mono ?_; rintro e w12 ⟨rfl, hb12⟩; have kq12 := kq11.on hb12; have kn12 := kn11.on hb12; have hy12 := hy11.on hb12; have hs12 := hs11.on hb12; have hB12 := on_ hB11 hb12))
    have rq12 := kq12.rule
    have zq12 := kq12.lt
    have rn12 := kn12.rule
    have zn12 := kn12.lt
    go_wp2
    go_ret
    exact ⟨rfl, hB12⟩

theorem own : ownKnob Try.prog.godebug = none := by kernel_rfl
theorem laidOut : laidOutB Try.prog = true := by kernel_rfl

set_option maxRecDepth 100000 in
theorem lifted (os : Os) (started : os.Started) (H : Type) (enc : TypeId × Value → H) :
    ReturnsInHanded {} Try.checked os 8 .any (Rows.fnExactMsgCmpSpec.pre6 enc Try.prog Try.f8 Rows.fnExactMsgCmpRow.domain false) (Rows.fnExactMsgCmpSpec.post enc Try.prog Try.f8 false true false false) := by
  refine returnsInHanded_of_change (C := Try.checked) own started (by kernel_rfl) Try.func8
    (ChangeSpec.witness6 (enc := enc) (C := Try.checked) false ⟨#[], #[.agg #[.int .i64 0, .int .i64 0, .int .i64 0, .int .i64 0, .int .i64 0, .slice none 0 0], .agg #[.int .i64 0, .int .i64 0, .int .i64 0, .int .i64 0, .int .i64 0, .slice none 0 0]], []⟩ 8 (by kernel_rfl) (by kernel_rfl) (by kernel_rfl) (by kernel_rfl)) ?_
  intro W base args ds gs before hval0 hW hcnd _
  have hval : ∀ (j : Nat) t v, Try.f8.params[j]? = some t → args[j]? = some v → Value.okWide Try.prog W .any base t v := hval0
  have hW' := hW
  obtain ⟨p, q, hA0, hV, rfl, hfz, hnd⟩ := hW
  have hA : DataW.TrodAll enc Try.prog W 0 (fun _ => true) true Try.f8.params.toList args.toList ds p := hA0
  rw [Try.params8] at hA hval
  obtain ⟨v0, v1, d0, d1, p0, p1, rfl, rfl, rfl, h0, h1⟩ := trodAll_two hA
  obtain ⟨cs0, rfl, hsz0⟩ := okWide_struct Try.underlying33 (hval 0 33 v0 rfl rfl)
  obtain ⟨fuel0, hf0⟩ := h0
  obtain ⟨km, vm, xm, am, bm, Am, cm, sm, hcs0, hmm, hrm⟩ := open_msg hf0
  obtain rfl : cs0 = #[.int .i64 km, .int .i64 vm, .int .i64 xm, .int .i64 am, .int .i64 bm, .slice Am sm.length cm] := by
    obtain ⟨l⟩ := cs0
    simpa [Value.cells] using hcs0
  obtain ⟨cs1, rfl, hsz1⟩ := okWide_struct Try.underlying33 (hval 1 33 v1 rfl rfl)
  obtain ⟨fuel1, hf1⟩ := h1
  obtain ⟨kn, vn, xn, an, bn, An, cn, sn, hcs1, hmn, hrn⟩ := open_msg hf1
  obtain rfl : cs1 = #[.int .i64 kn, .int .i64 vn, .int .i64 xn, .int .i64 an, .int .i64 bn, .slice An sn.length cn] := by
    obtain ⟨l⟩ := cs1
    simpa [Value.cells] using hcs1
  refine (walk km vm xm am bm Am cm sm kn vn xn an bn An cn sn W hmm hrm hmn hrn).mono fun e W' ⟨he, hb⟩ => ⟨_, he, law_post laidOut hW' hb rfl (by kernel_rfl) Try.underlying4 (by kernel_rfl) rfl⟩

theorem over : Rows.fnExactMsgCmpRow.holds Try.pinned (OpenSpec.ofChange Rows.fnExactMsgCmpSpec) :=
  OpenClaim.holds_of_wide 8 Try.f8 rfl rfl rfl rfl rfl rfl rfl ⟨rfl, rfl, rfl, rfl, rfl⟩ rfl rfl rfl rfl rfl (by kernel_rfl) Try.func8 (by kernel_rfl)
    (of_decide_eq_true (by kernel_rfl)) (by unfold Func.isWrapper; first | (rw [if_pos (by decide +kernel)]; kernel_rfl) | (rw [if_neg (by decide +kernel)]; exact ⟨rfl, rfl⟩))
    (fun os started H enc _ => lifted os started H enc)

theorem proved : Rows.FnExactMsgCmpSaid :=
  over
end Go.Proofs.Ytbgkjhfhcaidcaa.fnExactMsgCmp
