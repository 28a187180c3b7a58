/-
  Proved here: for every message and view, VoteIn of the program answers as VoteIn of the model, both results, and the message reads afterwards as before. No condition.
-/
import Derived.Test.YtbgkjhfhcaidcaaRows
import Derived.Test.YtbgkjhfhcaidcaaSteps
import Derived.Test.YtbgkjhfhcaidcaaVoteIn
import Derived.Deep.RegionHeld3
set_option linter.unusedVariables false
namespace Go.Proofs.Ytbgkjhfhcaidcaa.fnExactVoteIn
open Go.RowKit Go.ChangeShapes Go.WideShapes Go.Proofs.Ytbgkjhfhcaidcaa.B Go.Proofs.Ytbgkjhfhcaidcaa.V

set_option maxHeartbeats 800000 in
theorem walk (k v x a b view : Int) (A : Option Addr) (c : Nat) (vs : List (Int × Int)) (w : World) (hm : vs.length ≤ maxLen) (hr : Rd w w.heap.size A vs) :
    Calls Try.prog 10 #[.agg #[.int .i64 k, .int .i64 v, .int .i64 x, .int .i64 a, .int .i64 b, .slice A vs.length c], .int .i64 view] w fun e w' => e = .returned (.bool true) ∧ Below w.heap.size w w' := by
  by_cases hn : (1048576 : Int) < vs.length
  · go_enter Try.func10, Try.ntmps10
    go_wp2_with fail
    refine (szMsg_big k v x a b A c vs _ hm hn).mono ?_
    rintro e w1 ⟨rfl, hb1⟩
    go_wp2
    go_ret
    exact ⟨rfl, on_ (up_ (Below.refl _ _) _) hb1⟩
  · have hn' : vs.length ≤ 1048576 := by omega
    have km0 := Blk.new w 33 #[.int .i64 k, .int .i64 v, .int .i64 x, .int .i64 a, .int .i64 b, .slice A vs.length c]
    have hr0 := fun O => hr.up O
    have HR := Lib.hid hr0; clear hr0 hr hm
    have hB0 := Below.refl w.heap.size w
    go_enter Try.func10, Try.ntmps10
    go_wp2_with fail
    refine (szMsg_small k v x a b A c vs _ hn').mono ?_
    rintro e w1 ⟨rfl, hb1⟩
    have km1 := Blk.on km0 hb1
    have rm1 := km1.rule
    have zm1 := km1.lt
    have hB1 := on_ (up_ hB0 _) hb1
    have hr1 := (HR.out _).on hb1
    clear hb1 km0 hB0
    go_wp2_with fail
    refine (toMsg_any k v x a b A c vs _ hr1 hn').mono ?_
    rintro e w2 ⟨g2, cs2, rfl, hg2, hq2, hp2, hb2⟩
    have km2 := Blk.on km1 hb2
    have rm2 := km2.rule
    have zm2 := km2.lt
    have hB2 := on_ hB1 hb2
    have hr2 := Rd.on hr1 hb2
    have hs2 := hp2.rd hq2 hq2.lt
    clear hb2 km1 rm1 zm1 hB1 hr1
    clear hq2 hp2 hg2
    obtain ⟨q, hq⟩ : ∃ q, msgOkB k v x a b vs = q := ⟨_, rfl⟩
    have HQ := Lib.hid hq; clear hq
    obtain ⟨⟨ra, rq⟩, hres⟩ : ∃ r, lookB q vs view = r := ⟨_, rfl⟩
    have HS := Lib.hid hres; clear hres
    go_wp2_with fail
    refine (specVoteIn_as q rq ra k v x a b view _ _ vs HQ.out HS.out _ hs2 hn').mono ?_
    rintro e w3 ⟨rfl, hb3⟩
    have km3 := Blk.on km2 hb3
    have rm3 := km3.rule
    have zm3 := km3.lt
    have hB3 := on_ hB2 hb3
    have hr3 := Rd.on hr2 hb3
    have hs3 := Rd.on hs2 hb3
    clear hb3 km2 rm2 zm2 hB2 hr2 hs2
    clear hs3
    go_wp2_with fail
    refine (toMsg_any k v x a b A c vs _ hr3 hn').mono ?_
    rintro e w4 ⟨g4, cs4, rfl, hg4, hq4, hp4, hb4⟩
    have km4 := Blk.on km3 hb4
    have rm4 := km4.rule
    have zm4 := km4.lt
    have hB4 := on_ hB3 hb4
    have hr4 := Rd.on hr3 hb4
    have hs4 := hp4.rd hq4 hq4.lt
    clear hb4 km3 rm3 zm3 hB3 hr3
    clear hq4 hp4 hg4
    have kx0 := Blk.new w4 38 #[.int .i64 k, .int .i64 v, .int .i64 x, .int .i64 a, .int .i64 b, .slice (some ⟨g4, 0, none⟩) vs.length vs.length]
    go_wp2_with fail
    refine (implVoteIn_as q rq ra k v x a b view _ _ vs HQ.out HS.out _ (hs4.up _) hn').mono ?_
    rintro e w5 ⟨rfl, hb5⟩
    have km5 := Blk.on (km4.alloc _) hb5
    have rm5 := km5.rule
    have zm5 := km5.lt
    have kx5 := Blk.on kx0 hb5
    have rx5 := kx5.rule
    have zx5 := kx5.lt
    have hB5 := on_ (up_ hB4 _) hb5
    have hr5 := Rd.on (Rd.up hr4 _) hb5
    have hs5 := Rd.on (Rd.up hs4 _) hb5
    clear hb5 km4 rm4 zm4 kx0 hB4 hr4 hs4
    have hne : (ra != ra) = false := by simp
    have hnq : (rq != rq) = false := by simp
    go_wp2
    go_region_held3 (fun w' => (∀ i, w'.cell? ⟨w4.heap.size, i, none⟩ = (#[.int .i64 k, .int .i64 v, .int .i64 x, .int .i64 a, .int .i64 b, .slice (some ⟨g4, 0, none⟩) vs.length vs.length] : Array Value)[i]?) ∧ (∀ i, w'.cell? ⟨w.heap.size, i, none⟩ = (#[.int .i64 k, .int .i64 v, .int .i64 x, .int .i64 a, .int .i64 b, .slice A vs.length c] : Array Value)[i]?))
      (first | exact ⟨kx7.rule, km7.rule⟩ | exact ⟨kx6.rule, km6.rule⟩ | exact ⟨rx5, rm5⟩)
      (first
        | (go_at_call 22; refine (toMsg_any k v x a b A c vs _ (by exact hr5) hn').mono ?_; rintro e w6 ⟨g6, cs6, rfl, hg6, hq6, hp6, hb6⟩; have kx6 : Blk w6 _ _ _ := Blk.on (w := w5.drew) kx5 hb6; have km6 : Blk w6 _ _ _ := Blk.on (w := w5.drew) km5 hb6; have hB6 := on_ hB5.drew hb6; have hs6 := Rd.on (w := w5.drew) hs5 hb6; have ht6 := hp6.rd hq6 hq6.lt)
        | (go_at_call 24; refine (eqMsg_same k v x a b _ _ _ _ vs _ (by exact hs6) (by exact ht6) hn').mono ?_; rintro e w7 ⟨rfl, hb7⟩; have kx7 := kx6.on hb7; have km7 := km6.on hb7; have hB7 := on_ hB6 hb7))
    go_wp2
    go_ret
    exact ⟨rfl, hB7⟩

theorem own : ownKnob Try.prog.godebug = none := by kernel_rfl
theorem laidOut : laidOutB Try.prog = true := by kernel_rfl

set_option maxRecDepth 100000 in
theorem lifted (os : Os) (started : os.Started) (H : Type) (enc : TypeId × Value → H) :
    ReturnsInHanded {} Try.checked os 10 .any (Rows.fnExactVoteInSpec.pre6 enc Try.prog Try.f10 Rows.fnExactVoteInRow.domain false) (Rows.fnExactVoteInSpec.post enc Try.prog Try.f10 false true false false) := by
  refine returnsInHanded_of_change (C := Try.checked) own started (by kernel_rfl) Try.func10
    (ChangeSpec.witness6 (enc := enc) (C := Try.checked) false ⟨#[], #[.agg #[.int .i64 0, .int .i64 0, .int .i64 0, .int .i64 0, .int .i64 0, .slice none 0 0], .int .i64 0], []⟩ 8 (by kernel_rfl) (by kernel_rfl) (by kernel_rfl) (by kernel_rfl)) ?_
  intro W base args ds gs before hval0 hW hcnd _
  have hval : ∀ (j : Nat) t v, Try.f10.params[j]? = some t → args[j]? = some v → Value.okWide Try.prog W .any base t v := hval0
  have hW' := hW
  obtain ⟨p, q, hA0, hV, rfl, hfz, hnd⟩ := hW
  have hA : DataW.TrodAll enc Try.prog W 0 (fun _ => true) true Try.f10.params.toList args.toList ds p := hA0
  rw [Try.params10] at hA hval
  obtain ⟨v0, v1, d0, d1, p0, p1, rfl, rfl, rfl, h0, h1⟩ := trodAll_two hA
  obtain ⟨cs0, rfl, hsz0⟩ := okWide_struct Try.underlying33 (hval 0 33 v0 rfl rfl)
  obtain ⟨fuel0, hf0⟩ := h0
  obtain ⟨km, vm, xm, am, bm, Am, cm, sm, hcs0, hmm, hrm⟩ := open_msg hf0
  obtain rfl : cs0 = #[.int .i64 km, .int .i64 vm, .int .i64 xm, .int .i64 am, .int .i64 bm, .slice Am sm.length cm] := by
    obtain ⟨l⟩ := cs0
    simpa [Value.cells] using hcs0
  obtain ⟨z, rfl, rfl, rfl, wz⟩ := open_int Try.underlying3 (hval 1 3 v1 rfl rfl) h1
  refine (walk km vm xm am bm z Am cm sm W hmm hrm).mono fun e W' ⟨he, hb⟩ => ⟨_, he, law_post laidOut hW' hb rfl (by kernel_rfl) Try.underlying4 (by kernel_rfl) rfl⟩

theorem over : Rows.fnExactVoteInRow.holds Try.pinned (OpenSpec.ofChange Rows.fnExactVoteInSpec) :=
  OpenClaim.holds_of_wide 10 Try.f10 rfl rfl rfl rfl rfl rfl rfl ⟨rfl, rfl, rfl, rfl, rfl⟩ rfl rfl rfl rfl rfl (by kernel_rfl) Try.func10 (by kernel_rfl)
    (of_decide_eq_true (by kernel_rfl)) (by unfold Func.isWrapper; first | (rw [if_pos (by decide +kernel)]; kernel_rfl) | (rw [if_neg (by decide +kernel)]; exact ⟨rfl, rfl⟩))
    (fun os started H enc _ => lifted os started H enc)

theorem proved : Rows.FnExactVoteInSaid :=
  over
end Go.Proofs.Ytbgkjhfhcaidcaa.fnExactVoteIn
