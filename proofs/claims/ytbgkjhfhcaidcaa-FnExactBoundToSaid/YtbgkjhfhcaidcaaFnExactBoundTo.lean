/-
  Proved here: for every message, BoundTo of the program answers as BoundTo of the model, both results, and the message reads afterwards as before. No condition.
-/
import Derived.Test.YtbgkjhfhcaidcaaRows
import Derived.Test.YtbgkjhfhcaidcaaSteps
import Derived.Test.YtbgkjhfhcaidcaaBoundTo
import Derived.Deep.RegionHeld3
set_option linter.unusedVariables false
namespace Go.Proofs.Ytbgkjhfhcaidcaa.fnExactBoundTo
open Go.RowKit Go.ChangeShapes Go.WideShapes Go.Proofs.Ytbgkjhfhcaidcaa.B Go.Proofs.Ytbgkjhfhcaidcaa.V

set_option maxHeartbeats 800000 in
theorem walk (k v x a b : Int) (A : Option Addr) (c : Nat) (vs : List (Int × Int)) (w : World) (hm : vs.length ≤ maxLen) (hr : Rd w w.heap.size A vs) :
    Calls Try.prog 12 #[.agg #[.int .i64 k, .int .i64 v, .int .i64 x, .int .i64 a, .int .i64 b, .slice A vs.length c]] w fun e w' => e = .returned (.bool true) ∧ Below w.heap.size w w' := by
  by_cases hn : (1048576 : Int) < vs.length
  · go_enter Try.func12, Try.ntmps12
    go_wp2_with fail
    refine (szMsg_big k v x a b A c vs _ hm hn).mono ?_
    rintro e w1 ⟨rfl, hb1⟩
    go_wp2
    go_ret
    exact ⟨rfl, on_ (up_ (Below.refl _ _) _) hb1⟩
  · have hn' : vs.length ≤ 1048576 := by omega
    have km0 := Blk.new w 33 #[.int .i64 k, .int .i64 v, .int .i64 x, .int .i64 a, .int .i64 b, .slice A vs.length c]
    have hr0 := fun O => hr.up O
    have HR := Lib.hid hr0; clear hr0 hr hm
    have hB0 := Below.refl w.heap.size w
    go_enter Try.func12, Try.ntmps12
    go_wp2_with fail
    refine (szMsg_small k v x a b A c vs _ hn').mono ?_
    rintro e w1 ⟨rfl, hb1⟩
    have km1 := Blk.on km0 hb1
    have rm1 := km1.rule
    have zm1 := km1.lt
    have hB1 := on_ (up_ hB0 _) hb1
    have hr1 := (HR.out _).on hb1
    clear hb1 km0 hB0
    go_wp2_with fail
    refine (toMsg_any k v x a b A c vs _ hr1 hn').mono ?_
    rintro e w2 ⟨g2, cs2, rfl, hg2, hq2, hp2, hb2⟩
    have km2 := Blk.on km1 hb2
    have rm2 := km2.rule
    have zm2 := km2.lt
    have hB2 := on_ hB1 hb2
    have hr2 := Rd.on hr1 hb2
    have hs2 := hp2.rd hq2 hq2.lt
    clear hb2 km1 rm1 zm1 hB1 hr1
    clear hq2 hp2 hg2
    obtain ⟨q, hq⟩ : ∃ q, msgOkB k v x a b vs = q := ⟨_, rfl⟩
    have HQ := Lib.hid hq; clear hq
    obtain ⟨ra, hra⟩ : ∃ r, (if q && decide (b ≠ 0) then a else 0) = r := ⟨_, rfl⟩
    obtain ⟨rb, hrb⟩ : ∃ r, (if q && decide (b ≠ 0) then b else 0) = r := ⟨_, rfl⟩
    obtain ⟨rq, hrq⟩ : ∃ r, (q && decide (b ≠ 0)) = r := ⟨_, rfl⟩
    have HS := Lib.hid (And.intro hra (And.intro hrb hrq)); clear hra hrb hrq
    go_wp2_with fail
    refine (specBound_as q rq ra rb k v x a b _ _ vs HQ.out HS.out _ hs2 hn').mono ?_
    rintro e w3 ⟨rfl, hb3⟩
    have km3 := Blk.on km2 hb3
    have rm3 := km3.rule
    have zm3 := km3.lt
    have hB3 := on_ hB2 hb3
    have hr3 := Rd.on hr2 hb3
    have hs3 := Rd.on hs2 hb3
    clear hb3 km2 rm2 zm2 hB2 hr2 hs2
    clear hs3
    have kt0 := Blk.new w3 36 #[.int .i64 ra, .int .i64 rb]
    go_wp2_with fail
    refine (toMsg_any k v x a b A c vs _ (hr3.up _) hn').mono ?_
    rintro e w4 ⟨g4, cs4, rfl, hg4, hq4, hp4, hb4⟩
    have km4 := Blk.on (km3.alloc _) hb4
    have rm4 := km4.rule
    have zm4 := km4.lt
    have kt4 := Blk.on kt0 hb4
    have rt4 := kt4.rule
    have zt4 := kt4.lt
    have hB4 := on_ (up_ hB3 _) hb4
    have hr4 := Rd.on (Rd.up hr3 _) hb4
    have hs4 := hp4.rd hq4 hq4.lt
    clear hb4 km3 rm3 zm3 kt0 hB3 hr3
    clear hq4 hp4 hg4
    have kx0 := Blk.new w4 38 #[.int .i64 k, .int .i64 v, .int .i64 x, .int .i64 a, .int .i64 b, .slice (some ⟨g4, 0, none⟩) vs.length vs.length]
    go_wp2_with fail
    refine (implBound_as q rq ra rb k v x a b _ _ vs HQ.out HS.out _ (hs4.up _) hn').mono ?_
    rintro e w5 ⟨rfl, hb5⟩
    have km5 := Blk.on (km4.alloc _) hb5
    have rm5 := km5.rule
    have zm5 := km5.lt
    have kt5 := Blk.on (kt4.alloc _) hb5
    have rt5 := kt5.rule
    have zt5 := kt5.lt
    have kx5 := Blk.on kx0 hb5
    have rx5 := kx5.rule
    have zx5 := kx5.lt
    have hB5 := on_ (up_ hB4 _) hb5
    have hr5 := Rd.on (Rd.up hr4 _) hb5
    have hs5 := Rd.on (Rd.up hs4 _) hb5
    clear hb5 km4 rm4 zm4 kt4 rt4 zt4 kx0 hB4 hr4 hs4
    have ku0 := Blk.new w5 36 #[.int .i64 ra, .int .i64 rb]
    go_wp2_with fail
    refine (eqVote_is true ra rb ra rb (by simp) _).mono ?_
    rintro e w6 ⟨rfl, hb6⟩
    have km6 := Blk.on (km5.alloc _) hb6
    have rm6 := km6.rule
    have zm6 := km6.lt
    have kt6 := Blk.on (kt5.alloc _) hb6
    have rt6 := kt6.rule
    have zt6 := kt6.lt
    have kx6 := Blk.on (kx5.alloc _) hb6
    have rx6 := kx6.rule
    have zx6 := kx6.lt
    have ku6 := Blk.on ku0 hb6
    have ru6 := ku6.rule
    have zu6 := ku6.lt
    have hB6 := on_ (up_ hB5 _) hb6
    have hr6 := Rd.on (Rd.up hr5 _) hb6
    have hs6 := Rd.on (Rd.up hs5 _) hb6
    clear hb6 km5 rm5 zm5 kt5 rt5 zt5 kx5 rx5 zx5 ku0 hB5 hr5 hs5
    go_wp2
    go_region_held3 (fun w' => (∀ i, w'.cell? ⟨w4.heap.size, i, none⟩ = (#[.int .i64 k, .int .i64 v, .int .i64 x, .int .i64 a, .int .i64 b, .slice (some ⟨g4, 0, none⟩) vs.length vs.length] : Array Value)[i]?) ∧ (∀ i, w'.cell? ⟨w.heap.size, i, none⟩ = (#[.int .i64 k, .int .i64 v, .int .i64 x, .int .i64 a, .int .i64 b, .slice A vs.length c] : Array Value)[i]?))
      (first | exact ⟨kx8.rule, km8.rule⟩ | exact ⟨kx7.rule, km7.rule⟩ | exact ⟨rx6, rm6⟩)
      (first
        | (go_at_call 22; refine (toMsg_any k v x a b A c vs _ (by exact hr6) hn').mono ?_; rintro e w7 ⟨g7, cs7, rfl, hg7, hq7, hp7, hb7⟩; have kx7 : Blk w7 _ _ _ := Blk.on (w := w6.drew) kx6 hb7; have km7 : Blk w7 _ _ _ := Blk.on (w := w6.drew) km6 hb7; have hB7 := on_ hB6.drew hb7; have hs7 := Rd.on (w := w6.drew) hs6 hb7; have ht7 := hp7.rd hq7 hq7.lt)
        | (go_at_call 24; refine (eqMsg_same k v x a b _ _ _ _ vs _ (by exact hs7) (by exact ht7) hn').mono ?_; rintro e w8 ⟨rfl, hb8⟩; have kx8 := kx7.on hb8; have km8 := km7.on hb8; have hB8 := on_ hB7 hb8))
    go_wp2
    go_ret
    exact ⟨rfl, hB8⟩

theorem own : ownKnob Try.prog.godebug = none := by kernel_rfl
theorem laidOut : laidOutB Try.prog = true := by kernel_rfl

set_option maxRecDepth 100000 in
theorem lifted (os : Os) (started : os.Started) (H : Type) (enc : TypeId × Value → H) :
    ReturnsInHanded {} Try.checked os 12 .any (Rows.fnExactBoundToSpec.pre6 enc Try.prog Try.f12 Rows.fnExactBoundToRow.domain false) (Rows.fnExactBoundToSpec.post enc Try.prog Try.f12 false true false false) := by
  refine returnsInHanded_of_change (C := Try.checked) own started (by kernel_rfl) Try.func12
    (ChangeSpec.witness6 (enc := enc) (C := Try.checked) false ⟨#[], #[.agg #[.int .i64 0, .int .i64 0, .int .i64 0, .int .i64 0, .int .i64 0, .slice none 0 0]], []⟩ 8 (by kernel_rfl) (by kernel_rfl) (by kernel_rfl) (by kernel_rfl)) ?_
  intro W base args ds gs before hval0 hW hcnd _
  have hval : ∀ (j : Nat) t v, Try.f12.params[j]? = some t → args[j]? = some v → Value.okWide Try.prog W .any base t v := hval0
  have hW' := hW
  obtain ⟨p, q, hA0, hV, rfl, hfz, hnd⟩ := hW
  have hA : DataW.TrodAll enc Try.prog W 0 (fun _ => true) true Try.f12.params.toList args.toList ds p := hA0
  rw [Try.params12] at hA hval
  obtain ⟨v0, d0, rfl, rfl, h0⟩ := trodAll_one hA
  obtain ⟨cs0, rfl, hsz0⟩ := okWide_struct Try.underlying33 (hval 0 33 v0 rfl rfl)
  obtain ⟨fuel0, hf0⟩ := h0
  obtain ⟨km, vm, xm, am, bm, Am, cm, sm, hcs0, hmm, hrm⟩ := open_msg hf0
  obtain rfl : cs0 = #[.int .i64 km, .int .i64 vm, .int .i64 xm, .int .i64 am, .int .i64 bm, .slice Am sm.length cm] := by
    obtain ⟨l⟩ := cs0
    simpa [Value.cells] using hcs0
  refine (walk km vm xm am bm Am cm sm W hmm hrm).mono fun e W' ⟨he, hb⟩ => ⟨_, he, law_post laidOut hW' hb rfl (by kernel_rfl) Try.underlying4 (by kernel_rfl) rfl⟩

theorem over : Rows.fnExactBoundToRow.holds Try.pinned (OpenSpec.ofChange Rows.fnExactBoundToSpec) :=
  OpenClaim.holds_of_wide 12 Try.f12 rfl rfl rfl rfl rfl rfl rfl ⟨rfl, rfl, rfl, rfl, rfl⟩ rfl rfl rfl rfl rfl (by kernel_rfl) Try.func12 (by kernel_rfl)
    (of_decide_eq_true (by kernel_rfl)) (by unfold Func.isWrapper; first | (rw [if_pos (by decide +kernel)]; kernel_rfl) | (rw [if_neg (by decide +kernel)]; exact ⟨rfl, rfl⟩))
    (fun os started H enc _ => lifted os started H enc)

theorem proved : Rows.FnExactBoundToSaid :=
  over
end Go.Proofs.Ytbgkjhfhcaidcaa.fnExactBoundTo
