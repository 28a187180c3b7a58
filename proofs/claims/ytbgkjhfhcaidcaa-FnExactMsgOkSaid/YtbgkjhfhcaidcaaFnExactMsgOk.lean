/-
  Proved here: for every message, MsgOk of the program answers as MsgOk of the model, and the message reads afterwards as before. No condition.
-/
import Derived.Test.YtbgkjhfhcaidcaaRows
import Derived.Test.YtbgkjhfhcaidcaaSteps
import Derived.Test.YtbgkjhfhcaidcaaImplMsgOk
import Derived.Deep.RegionHeld3
set_option linter.unusedVariables false
namespace Go.Proofs.Ytbgkjhfhcaidcaa.fnExactMsgOk
open Go.RowKit Go.ChangeShapes Go.WideShapes Go.Proofs.Ytbgkjhfhcaidcaa.B Go.Proofs.Ytbgkjhfhcaidcaa.V

set_option maxHeartbeats 800000 in
theorem walk (k v x a b : Int) (A : Option Addr) (c : Nat) (vs : List (Int × Int)) (w : World) (hm : vs.length ≤ maxLen) (hr : Rd w w.heap.size A vs) :
    Calls Try.prog 5 #[.agg #[.int .i64 k, .int .i64 v, .int .i64 x, .int .i64 a, .int .i64 b, .slice A vs.length c]] w fun e w' => e = .returned (.bool true) ∧ Below w.heap.size w w' := by
  have hk0 := Blk.new w 33 #[.int .i64 k, .int .i64 v, .int .i64 x, .int .i64 a, .int .i64 b, .slice A vs.length c]
  by_cases hn : (1048576 : Int) < vs.length
  · go_enter Try.func5, Try.ntmps5
    go_wp2_with fail
    refine (szMsg_big k v x a b A c vs _ hm hn).mono ?_
    rintro e w1 ⟨rfl, hb1⟩
    go_wp2
    go_ret
    exact ⟨rfl, on_ (up_ (Below.refl _ _) _) hb1⟩
  · have hn' : vs.length ≤ 1048576 := by omega
    have hr0 := fun O => hr.up O
    have HR := Lib.hid hr0; clear hr0 hr hm
    go_enter Try.func5, Try.ntmps5
    go_wp2_with fail
    refine (szMsg_small k v x a b A c vs _ hn').mono ?_
    rintro e w1 ⟨rfl, hb1⟩
    have hk1 := hk0.on hb1
    have hB1 := on_ (up_ (Below.refl _ _) _) hb1
    have hr1 := (HR.out _).on hb1
    have hc1 := hk1.rule
    clear hk0 hb1
    go_wp2_with fail
    refine (toMsg_any k v x a b A c vs _ hr1 hn').mono ?_
    rintro e w2 ⟨g2, cs2, rfl, hg2, hq2, hp2, hb2⟩
    have hk2 := hk1.on hb2
    have hB2 := on_ hB1 hb2
    have hr2 := hr1.on hb2
    have hc2 := hk2.rule
    have hs2 := hp2.rd hq2 hq2.lt
    clear hk1 hb2 hc1 hB1 hr1 hq2 hp2 hg2
    go_wp2_with fail
    obtain ⟨q, hq⟩ : ∃ q, msgOkB k v x a b vs = q := ⟨_, rfl⟩
    have HQ := Lib.hid hq; clear hq
    refine (specMsgOk_is q k v x a b _ _ vs HQ.out _ hs2 hn').mono ?_
    rintro e w3 ⟨rfl, hb3⟩
    have hk3 := hk2.on hb3
    have hB3 := on_ hB2 hb3
    have hr3 := hr2.on hb3
    have hc3 := hk3.rule
    clear hk2 hb3 hc2 hB2 hr2 hs2
    go_wp2_with fail
    refine (toMsg_any k v x a b A c vs _ hr3 hn').mono ?_
    rintro e w4 ⟨g4, cs4, rfl, hg4, hq4, hp4, hb4⟩
    have hk4 := hk3.on hb4
    have hB4 := on_ hB3 hb4
    have hr4 := hr3.on hb4
    have hs4 := hp4.rd hq4 hq4.lt
    have hz4 : w.heap.size < w4.heap.size := hk4.lt
    have hl4 := Blk.new w4 38 #[.int .i64 k, .int .i64 v, .int .i64 x, .int .i64 a, .int .i64 b, .slice (some ⟨g4, 0, none⟩) vs.length vs.length]
    clear hk3 hb4 hc3 hB3 hr3 hq4 hp4 hg4
    go_wp2_with fail
    refine (implMsgOk_is q k v x a b _ _ vs HQ.out _ (hs4.up _) hn').mono ?_
    rintro e w5 ⟨rfl, hb5⟩
    have hk5 := (hk4.alloc _).on hb5
    have hl5 := hl4.on hb5
    have hB5 := on_ (up_ hB4 _) hb5
    have hr5 := (hr4.up _).on hb5
    have hs5 := (hs4.up _).on hb5
    have hc5 := hk5.rule
    have hd5 := hl5.rule
    clear hk4 hb5 hB4 hr4 hs4 hl4
    go_wp2
    go_region_held3 (fun w' => (∀ i, w'.cell? ⟨w4.heap.size, i, none⟩ = (#[.int .i64 k, .int .i64 v, .int .i64 x, .int .i64 a, .int .i64 b, .slice (some ⟨g4, 0, none⟩) vs.length vs.length] : Array Value)[i]?) ∧ (∀ i, w'.cell? ⟨w.heap.size, i, none⟩ = (#[.int .i64 k, .int .i64 v, .int .i64 x, .int .i64 a, .int .i64 b, .slice A vs.length c] : Array Value)[i]?))
      (first | exact ⟨hl7.rule, hk7.rule⟩ | exact ⟨hl6.rule, hk6.rule⟩ | exact ⟨hd5, hc5⟩)
      (first
        | (go_at_call 22; refine (toMsg_any k v x a b A c vs _ (by exact hr5) hn').mono ?_; rintro e w6 ⟨g6, cs6, rfl, hg6, hq6, hp6, hb6⟩; have hl6 : Blk w6 _ _ _ := Blk.on (w := w5.drew) hl5 hb6; have hk6 : Blk w6 _ _ _ := Blk.on (w := w5.drew) hk5 hb6; have hB6 := on_ hB5.drew hb6; have hs6 := Rd.on (w := w5.drew) hs5 hb6; have ht6 := hp6.rd hq6 hq6.lt)
        | (go_at_call 24; refine (eqMsg_same k v x a b _ _ _ _ vs _ (by exact hs6) (by exact ht6) hn').mono ?_; rintro e w7 ⟨rfl, hb7⟩; have hl7 := hl6.on hb7; have hk7 := hk6.on hb7; have hB7 := on_ hB6 hb7))
    go_wp2
    go_ret
    exact ⟨rfl, hB7⟩

theorem own : ownKnob Try.prog.godebug = none := by kernel_rfl
theorem laidOut : laidOutB Try.prog = true := by kernel_rfl

set_option maxRecDepth 100000 in
theorem lifted (os : Os) (started : os.Started) (H : Type) (enc : TypeId × Value → H) :
    ReturnsInHanded {} Try.checked os 5 .any (Rows.fnExactMsgOkSpec.pre6 enc Try.prog Try.f5 Rows.fnExactMsgOkRow.domain false) (Rows.fnExactMsgOkSpec.post enc Try.prog Try.f5 false true false false) := by
  refine returnsInHanded_of_change (C := Try.checked) own started (by kernel_rfl) Try.func5
    (ChangeSpec.witness6 (enc := enc) (C := Try.checked) false ⟨#[], #[.agg #[.int .i64 0, .int .i64 0, .int .i64 0, .int .i64 0, .int .i64 0, .slice none 0 0]], []⟩ 8 (by kernel_rfl) (by kernel_rfl) (by kernel_rfl) (by kernel_rfl)) ?_
  intro W base args ds gs before hval0 hW hcnd _
  have hval : ∀ (j : Nat) t v, Try.f5.params[j]? = some t → args[j]? = some v → Value.okWide Try.prog W .any base t v := hval0
  have hW' := hW
  obtain ⟨p, q, hA0, hV, rfl, hfz, hnd⟩ := hW
  have hA : DataW.TrodAll enc Try.prog W 0 (fun _ => true) true Try.f5.params.toList args.toList ds p := hA0
  rw [Try.params5] at hA hval
  obtain ⟨v0, d0, rfl, rfl, h0⟩ := trodAll_one hA
  obtain ⟨cs0, rfl, hsz0⟩ := okWide_struct Try.underlying33 (hval 0 33 v0 rfl rfl)
  obtain ⟨fuel0, hf0⟩ := h0
  obtain ⟨km, vm, xm, am, bm, Am, cm, sm, hcs0, hmm, hrm⟩ := open_msg hf0
  obtain rfl : cs0 = #[.int .i64 km, .int .i64 vm, .int .i64 xm, .int .i64 am, .int .i64 bm, .slice Am sm.length cm] := by
    obtain ⟨l⟩ := cs0
    simpa [Value.cells] using hcs0
  refine (walk km vm xm am bm Am cm sm W hmm hrm).mono fun e W' ⟨he, hb⟩ => ⟨_, he, law_post laidOut hW' hb rfl (by kernel_rfl) Try.underlying4 (by kernel_rfl) rfl⟩

theorem over : Rows.fnExactMsgOkRow.holds Try.pinned (OpenSpec.ofChange Rows.fnExactMsgOkSpec) :=
  OpenClaim.holds_of_wide 5 Try.f5 rfl rfl rfl rfl rfl rfl rfl ⟨rfl, rfl, rfl, rfl, rfl⟩ rfl rfl rfl rfl rfl (by kernel_rfl) Try.func5 (by kernel_rfl)
    (of_decide_eq_true (by kernel_rfl)) (by unfold Func.isWrapper; first | (rw [if_pos (by decide +kernel)]; kernel_rfl) | (rw [if_neg (by decide +kernel)]; exact ⟨rfl, rfl⟩))
    (fun os started H enc _ => lifted os started H enc)

theorem proved : Rows.FnExactMsgOkSaid :=
  over
end Go.Proofs.Ytbgkjhfhcaidcaa.fnExactMsgOk
