/-
  What MsgCmp answers, of the model and of the program: contracts. No statement is proved here.
-/
import Derived.Test.YtbgkjhfhcaidcaaCompare
import Derived.Deep.RegionWith
import Derived.Deep.RegionHeld3
import Derived.WalkLawsBesides
set_option linter.unusedVariables false
namespace Go.Proofs.Ytbgkjhfhcaidcaa.V
open Go.RowKit Go.Proofs.Ytbgkjhfhcaidcaa.B

def cmpR (q q2 : Bool) (xs ys : List Int) : Int := if q && q2 then Lib.compareBytes (Lib.bytesOf xs) (Lib.bytesOf ys) else 0

theorem less_turn (x y : List UInt8) : Op.bytesLess y x = (!Op.bytesLess x y && !(x == y)) := by
  induction x generalizing y with
  | nil => cases y <;> simp [Op.bytesLess]
  | cons a x ih =>
    cases y with
    | nil => simp [Op.bytesLess]
    | cons b y =>
      simp only [Op.bytesLess, ih y]
      by_cases h1 : a < b
      · have h2 : ¬ b < a := UInt8.not_lt.2 (UInt8.le_of_lt h1)
        have hne : ¬ b = a := by rintro rfl; exact h2 h1
        simp [h1, h2, hne]
      · by_cases h2 : b < a
        · have hne : ¬ a = b := by rintro rfl; exact h1 h2
          simp [h1, h2, hne]
        · have e : a = b := UInt8.le_antisymm (UInt8.not_lt.1 h2) (UInt8.not_lt.1 h1)
          subst e
          simp [h1]

theorem ret_int {a b : Int} (h : a = b) : Ending.returned (.int .i64 b) = .returned (.int .i64 a) := by rw [h]

set_option maxHeartbeats 800000 in
theorem implMsgCmp_is (q q2 : Bool) (k v x a b : Int) (A : Option Addr) (c : Nat) (vs : List (Int × Int)) (k2 v2 x2 a2 b2 : Int) (A2 : Option Addr) (c2 : Nat) (us : List (Int × Int)) (hq : msgOkB k v x a b vs = q) (hq2 : msgOkB k2 v2 x2 a2 b2 us = q2) (w : World) (hr : Rd w w.heap.size A vs) (hn : vs.length ≤ 1048576) (hr2 : Rd w w.heap.size A2 us) (hn2 : us.length ≤ 1048576) :
    Calls Try.prog 36 #[.agg #[.int .i64 k, .int .i64 v, .int .i64 x, .int .i64 a, .int .i64 b, .slice A vs.length c], .agg #[.int .i64 k2, .int .i64 v2, .int .i64 x2, .int .i64 a2, .int .i64 b2, .slice A2 us.length c2]] w fun e w' => e = .returned (.int .i64 (cmpR q q2 (msgBytesL k v x a b vs vs.length) (msgBytesL k2 v2 x2 a2 b2 us us.length))) ∧ Below w.heap.size w w' := by
  have HQ := Lib.hid hq; clear hq
  have HQ2 := Lib.hid hq2; clear hq2
  have hr0 := fun O O' => (hr.up O).up O'
  have HR := Lib.hid hr0; clear hr0 hr
  have hr0 := fun O O' => (hr2.up O).up O'
  have HR2 := Lib.hid hr0; clear hr0 hr2
  have hkm := (Blk.new w 38 #[.int .i64 k, .int .i64 v, .int .i64 x, .int .i64 a, .int .i64 b, .slice A vs.length c]).alloc (.cells #[.int .i64 k2, .int .i64 v2, .int .i64 x2, .int .i64 a2, .int .i64 b2, .slice A2 us.length c2] 38)
  have hkn := Blk.new (w.alloc (.cells #[.int .i64 k, .int .i64 v, .int .i64 x, .int .i64 a, .int .i64 b, .slice A vs.length c] 38)) 38 #[.int .i64 k2, .int .i64 v2, .int .i64 x2, .int .i64 a2, .int .i64 b2, .slice A2 us.length c2]
  simp only [World.size_alloc] at hkn
  have HB1 := Lib.hid (fun W h => implMsgBytes_is q k v x a b A c vs HQ.out W h hn)
  have HB2 := Lib.hid (fun W h => implMsgBytes_is q2 k2 v2 x2 a2 b2 A2 c2 us HQ2.out W h hn2)
  go_enter Try.func36, Try.ntmps36
  go_wp2_with fail
  refine (HB1.out _ (HR.out _ _)).mono ?_
  rintro e w1 ⟨B1, d1, rfl, ho1, hb1⟩
  have hB1 := on_ (up_ (up_ (Below.refl w.heap.size w) _) _) hb1
  have hk1 := hkn.on hb1
  have hm1 := hk1.rule
  have hz1 := hk1.lt
  have hr21 := (HR2.out _ _).on hb1
  clear hkm hkn hb1
  go_wp2_with fail
  refine (HB2.out _ hr21).mono ?_
  rintro e w2 ⟨B2, d2, rfl, ho2, hb2⟩
  have hB2 := on_ hB1 hb2
  have ho1 := ho1.on hb2
  clear hb2 hB1 hm1 hz1 hk1 hr21
  cases q <;> cases q2
  · go_wp2
    go_ret
    exact ⟨rfl, hB2⟩
  · go_wp2
    go_ret
    exact ⟨rfl, hB2⟩
  · go_wp2
    go_ret
    exact ⟨rfl, hB2⟩
  · go_wp2_with fail
    refine (bytesCompare_any B1 B2 d1 d2 _ _ _ ho1.rd ho2.rd).mono ?_
    rintro e w3 ⟨rfl, rfl⟩
    go_wp2
    go_ret
    exact ⟨rfl, hB2⟩

set_option maxHeartbeats 6400000 in
theorem specMsgCmp_is (q q2 : Bool) (k v x a b : Int) (A : Option Addr) (c : Nat) (vs : List (Int × Int)) (k2 v2 x2 a2 b2 : Int) (A2 : Option Addr) (c2 : Nat) (us : List (Int × Int)) (hq : msgOkB k v x a b vs = q) (hq2 : msgOkB k2 v2 x2 a2 b2 us = q2) (w : World) (hr : Rd w w.heap.size A vs) (hn : vs.length ≤ 1048576) (hr2 : Rd w w.heap.size A2 us) (hn2 : us.length ≤ 1048576) :
    Calls Try.prog 35 #[.agg #[.int .i64 k, .int .i64 v, .int .i64 x, .int .i64 a, .int .i64 b, .slice A vs.length c], .agg #[.int .i64 k2, .int .i64 v2, .int .i64 x2, .int .i64 a2, .int .i64 b2, .slice A2 us.length c2]] w fun e w' => e = .returned (.int .i64 (cmpR q q2 (msgBytesL k v x a b vs vs.length) (msgBytesL k2 v2 x2 a2 b2 us us.length))) ∧ Below w.heap.size w w' := by
  have HQ := Lib.hid hq; clear hq
  have HQ2 := Lib.hid hq2; clear hq2
  have hr0 := fun O O' => (hr.up O).up O'
  have HR := Lib.hid hr0; clear hr0 hr
  have hr0 := fun O O' => (hr2.up O).up O'
  have HR2 := Lib.hid hr0; clear hr0 hr2
  have hkm := (Blk.new w 38 #[.int .i64 k, .int .i64 v, .int .i64 x, .int .i64 a, .int .i64 b, .slice A vs.length c]).alloc (.cells #[.int .i64 k2, .int .i64 v2, .int .i64 x2, .int .i64 a2, .int .i64 b2, .slice A2 us.length c2] 38)
  have hkn := Blk.new (w.alloc (.cells #[.int .i64 k, .int .i64 v, .int .i64 x, .int .i64 a, .int .i64 b, .slice A vs.length c] 38)) 38 #[.int .i64 k2, .int .i64 v2, .int .i64 x2, .int .i64 a2, .int .i64 b2, .slice A2 us.length c2]
  simp only [World.size_alloc] at hkn
  have HB1 := Lib.hid (fun W h => specMsgOk_is q k v x a b A c vs HQ.out W h hn)
  have HB2 := Lib.hid (fun W h => specMsgOk_is q2 k2 v2 x2 a2 b2 A2 c2 us HQ2.out W h hn2)
  have hl1 := fun W h => l1bytes_any k v x a b A c vs W h hn
  have hl2 := fun W h => l1bytes_any k2 v2 x2 a2 b2 A2 c2 us W h hn2
  generalize msgBytesL k v x a b vs vs.length = xs at *
  generalize msgBytesL k2 v2 x2 a2 b2 us us.length = ys at *
  have HL1 := Lib.hid hl1; clear hl1
  have HL2 := Lib.hid hl2; clear hl2
  have hres : cmpR true true xs ys = (if Op.bytesLess (strOfNums xs).toList (strOfNums ys).toList then -1 else if !((strOfNums xs).toList == (strOfNums ys).toList) then 1 else 0) := by
    simp only [cmpR, Bool.and_self, if_true, compare_less, Lib.strOfNums_toList]
    by_cases h1 : Op.bytesLess (Lib.bytesOf xs) (Lib.bytesOf ys) = true
    · simp [h1]
    · rw [less_turn (Lib.bytesOf xs) (Lib.bytesOf ys)]
      simp [h1]
  have hcv := fun W B d h => run_toString W B d xs h
  have hcv2 := fun W B d h => run_toString W B d ys h
  generalize strOfNums xs = sx at *
  generalize strOfNums ys = sy at *
  have HC1 := Lib.hid hcv; clear hcv
  have HC2 := Lib.hid hcv2; clear hcv2
  have HRES := Lib.hid hres; clear hres
  cases q
  · go_enter Try.func35, Try.ntmps35
    go_wp2_with fail
    refine (HB1.out _ (HR.out _ _)).mono ?_
    rintro e w1 ⟨rfl, hb1⟩
    have hB1 := on_ (up_ (up_ (Below.refl w.heap.size w) _) _) hb1
    go_wp2
    go_ret
    exact ⟨by simp [cmpR], hB1⟩
  go_enter Try.func35, Try.ntmps35
  go_wp2_with fail
  refine (HB1.out _ (HR.out _ _)).mono ?_
  rintro e w1 ⟨rfl, hb1⟩
  have hB1 := on_ (up_ (up_ (Below.refl w.heap.size w) _) _) hb1
  have hk1 := hkn.on hb1
  have hl1 := hkm.on hb1
  have hm1 := hk1.rule
  have hz1 := hk1.lt
  have hr11 := (HR.out _ _).on hb1
  have hr21 := (HR2.out _ _).on hb1
  clear hkm hkn hb1
  go_wp2_with fail
  refine (HB2.out _ hr21).mono ?_
  rintro e w2 ⟨rfl, hb2⟩
  have hB2 := on_ hB1 hb2
  have hk2 := hk1.on hb2
  have hl2 := hl1.on hb2
  have hr12 := hr11.on hb2
  have hr22 := hr21.on hb2
  clear hb2 hB1 hm1 hz1 hk1 hl1 hr21 hr11
  cases q2
  · go_wp2
    go_ret
    exact ⟨by simp [cmpR], hB2⟩
  have hm2 := hk2.rule
  have hm2' := hl2.rule
  obtain ⟨p, hp⟩ : ∃ p, Op.bytesLess sx.toList sy.toList = p := ⟨_, rfl⟩
  obtain ⟨r, hr⟩ : ∃ r, (sx.toList == sy.toList) = r := ⟨_, rfl⟩
  have HRS := Lib.hid (show cmpR true true xs ys = (if p then -1 else if !r then 1 else 0) by rw [HRES.out, hp, hr])
  go_wp2_with fail
  have hr12d : Rd w2.drew w2.drew.heap.size A vs := hr12
  have hk2d : Blk w2.drew _ _ _ := hk2
  have hl2d : Blk w2.drew _ _ _ := hl2
  have hr22d : Rd w2.drew w2.drew.heap.size A2 us := hr22
  have hB2d := hB2.drew
  go_region_with (first
      | (go_at_call_of 50 (Value.slice A vs.length c); refine (HL1.out _ (by exact hr12d)).mono ?_; rintro e w3 ⟨B1, d1, rfl, ho1, hb3⟩; have hk3 := hk2d.on hb3; have hl3 := hl2d.on hb3; have hB3 := on_ hB2d hb3; have hr23 := hr22d.on hb3; have hcv1 := HC1.out _ _ d1 ho1.rd; have rk3 := hk3.rule; have rl3 := hl3.rule)
      | (go_at_call_of 50 (Value.slice A2 us.length c2); refine (HL2.out _ (by exact hr23)).mono ?_; rintro e w4 ⟨B2, d2, rfl, ho2, hb4⟩; have hk4 := hk3.on hb4; have hl4 := hl3.on hb4; have hB4 := on_ hB3 hb4; have hcv3 := HC1.out _ _ d1 (ho1.on hb4).rd; have hcv4 := HC2.out _ _ d2 ho2.rd; have rk4 := hk4.rule; have rl4 := hl4.rule))
  all_goals clear HC1 HC2 HL1 HL2 HB1 HB2 HR HR2 hm2 hm2' hr12 hr22 hr12d hr22d hk2 hl2 hk2d hl2d hcv1 hcv3 hcv4 rk3 rl3 rk4 rl4 hr23 ho1 ho2 hk3 hl3 hk4 hl4
  all_goals cases p
  all_goals cases r
  all_goals go_wp2
  all_goals go_ret
  all_goals exact ⟨ret_int (by rw [HRS.out]; rfl), hB4⟩
end Go.Proofs.Ytbgkjhfhcaidcaa.V
