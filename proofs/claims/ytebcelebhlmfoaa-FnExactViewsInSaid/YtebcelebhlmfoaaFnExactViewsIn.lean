/-
  Proved here: for whatever tally and numbers, ViewsIn of the program answers as ViewsIn of the model; the tally reads afterwards as before, and each answer owns its memory. No condition.
-/
import Derived.Test.YtebcelebhlmfoaaRows
import Derived.Test.YtebcelebhlmfoaaOwnI
import Derived.Test.YtebcelebhlmfoaaLift3
import Derived.Test.YtebcelebhlmfoaaImplViews
import Derived.Deep.RegionHeld3
set_option linter.unusedVariables false
namespace Go.Proofs.Ytebcelebhlmfoaa.fnExactViewsIn
open Go.RowKit Go.ChangeShapes Go.WideShapes Go.Proofs.Ytebcelebhlmfoaa.B Go.Proofs.Ytebcelebhlmfoaa.V

set_option maxHeartbeats 3200000 in
theorem walk0 (A : Option Addr) (c : Nat) (vs : List B3) (xs : List Int) (w : World) (hm : vs.length ≤ maxLen) (hr : Rd3 w w.heap.size A vs)
    (hxl : vs.length ≤ 1048576 → xs.length ≤ 1048576)
    (hsp : vs.length ≤ 1048576 → ∀ (A : Option Addr) (W : World), Rd3 W W.heap.size A vs → Calls Try.prog 46 #[.agg #[.slice A vs.length vs.length]] W (NRes2 xs W))
    (him : vs.length ≤ 1048576 → ∀ (A : Option Addr) (W : World), Rd3 W W.heap.size A vs → Calls Try.prog 47 #[.agg #[.slice A vs.length vs.length]] W (NRes2 xs W)) :
    Calls Try.prog 13 #[.agg #[.slice A vs.length c]] w fun e w' => e = .returned (.bool true) ∧ Below w.heap.size w w' := by
  by_cases hn : (1048576 : Int) < vs.length
  · go_enter Try.func13, Try.ntmps13
    go_wp2_with fail
    refine (szTally_big A vs.length c _ _ hm (by omega) (by omega) hn).mono ?_
    rintro e w1 ⟨rfl, hb1⟩
    go_wp2
    go_ret
    exact ⟨rfl, on_ (up_ (Below.refl _ _) _) hb1⟩
  · have hn' : vs.length ≤ 1048576 := by omega
    have HSP := Lib.hid (hsp hn'); clear hsp
    have HIM := Lib.hid (him hn'); clear him
    have hxl := hxl hn'
    have hkm := Blk.new w 26 #[.slice A vs.length c]
    have hr0 := hr.up (.cells #[.slice A vs.length c] 26)
    have HR0 := Lib.hid hr
    have hsz0 := szTally_small A vs.length c 1048576 (w.alloc (.cells #[.slice A vs.length c] 26)) hm (by omega) (by omega) (by omega)
    have HSZ := Lib.hid hsz0; clear hsz0 hr hm
    go_enter Try.func13, Try.ntmps13
    go_wp2_with fail
    refine HSZ.out.mono ?_
    rintro e w1 ⟨rfl, hb1⟩
    have km1 := hkm.on hb1
    have or1 := Rd3.on hr0 hb1
    have hB1 := on_ (up_ (Below.refl w.heap.size w) _) hb1
    clear hkm hr0 hb1 HSZ
    have hsv1 := km1.lt
    have rm1 := km1.rule
    have zm1 := km1.lt
    go_wp2_with fail
    refine (toTally_any A c vs _ or1 hn').mono ?_
    rintro e w2 ⟨g2, cs2, rfl, hg2, hq2, hp2, hb2⟩
    have km2 : Blk w2 _ _ _ := Blk.on km1 hb2
    have or2 := Rd3.on or1 hb2
    have hB2 := on_ hB1 hb2
    clear rm1 zm1
    clear km1 or1 hB1
    have oy2 := hp2.rd hq2 hq2.lt
    have hsz2 := hb2.size
    clear hb2
    have rm2 := km2.rule
    have zm2 := km2.lt
    clear hp2 hq2 hg2 cs2
    go_wp2_with fail
    refine (HSP.out _ _ (by exact oy2)).mono ?_
    rintro e w3 ⟨B3, d3, rfl, hw3, hb3⟩
    have km3 : Blk w3 _ _ _ := Blk.on km2 hb3
    have or3 := Rd3.on or2 hb3
    have oy3 := Rd3.on oy2 hb3
    have hB3 := on_ hB2 hb3
    clear rm2 zm2
    clear km2 or2 oy2 hB2
    have ow3 := hw3
    have hsz3 := hb3.size
    clear hb3
    have rm3 := km3.rule
    have zm3 := km3.lt
    have hl3 := ow3.lt
    clear hw3
    clear oy3
    go_wp2_with fail
    refine (toTally_any A c vs _ or3 hn').mono ?_
    rintro e w4 ⟨g4, cs4, rfl, hg4, hq4, hp4, hb4⟩
    have km4 : Blk w4 _ _ _ := Blk.on km3 hb4
    have or4 := Rd3.on or3 hb4
    have ow4 := OI.on ow3 hb4
    have hB4 := on_ hB3 hb4
    clear rm3 zm3
    clear km3 or3 ow3 hB3
    have op4 := hq4
    have ox4 := hp4.rd hq4 hq4.lt
    have hsz4 := hb4.size
    clear hb4
    have rm4 := km4.rule
    have zm4 := km4.lt
    have hzp4 := op4.lt
    have HPC := Lib.hid (show vs.length * 3 ≤ cs4.size by have := hp4.1; omega)
    clear hp4 hq4
    have kx5 := Blk.new w4 31 #[.slice (some ⟨g4, 0, none⟩) vs.length vs.length]
    have km5 := Blk.alloc km4 (.cells #[.slice (some ⟨g4, 0, none⟩) vs.length vs.length] 31)
    have or5 := Rd3.up or4 (.cells #[.slice (some ⟨g4, 0, none⟩) vs.length vs.length] 31)
    have ow5 := OI.up ow4 (.cells #[.slice (some ⟨g4, 0, none⟩) vs.length vs.length] 31)
    have op5 := Blk.up op4 (.cells #[.slice (some ⟨g4, 0, none⟩) vs.length vs.length] 31)
    have ox5 := Rd3.up ox4 (.cells #[.slice (some ⟨g4, 0, none⟩) vs.length vs.length] 31)
    have hB5 := up_ hB4 (.cells #[.slice (some ⟨g4, 0, none⟩) vs.length vs.length] 31)
    have hsz5 : (w4.alloc (.cells #[.slice (some ⟨g4, 0, none⟩) vs.length vs.length] 31)).heap.size = w4.heap.size + 1 := World.size_alloc _ _
    clear km4 or4 ow4 op4 ox4 hB4
    clear rm4 zm4
    have rrm := km5.rule
    go_wp2_with fail
    generalize w4.alloc (.cells #[.slice (some ⟨g4, 0, none⟩) vs.length vs.length] 31) = w5 at *
    clear rrm
    have rm5 := km5.rule
    have zm5 := km5.lt
    have rx5 := kx5.rule
    have zx5 := kx5.lt
    have hlt5 : w4.heap.size < w5.heap.size := zx5
    clear hsz5
    refine (HIM.out _ _ (by exact ox5)).mono ?_
    rintro e w6 ⟨B6, d6, rfl, hw6, hb6⟩
    have km6 : Blk w6 _ _ _ := Blk.on km5 hb6
    have kx6 : Blk w6 _ _ _ := Blk.on kx5 hb6
    have or6 := Rd3.on or5 hb6
    have ow6 := OI.on ow5 hb6
    have op6 := Blk.on op5 hb6
    have ox6 := Rd3.on ox5 hb6
    have hB6 := on_ hB5 hb6
    clear rm5 zm5 rx5 zx5
    clear km5 kx5 or5 ow5 op5 ox5 hB5
    have og6 := hw6
    have hsz6 := hb6.size
    clear hb6
    have rm6 := km6.rule
    have zm6 := km6.lt
    have rx6 := kx6.rule
    have zx6 := kx6.lt
    have hog6 := og6.ge
    have hl6 := og6.lt
    clear hw6
    go_wp2_with fail
    refine (eqIntS_same _ _ _ _ xs _ (by exact og6.rd) (by exact ow6.rd) (by omega)).mono ?_
    rintro e w7 ⟨rfl, hb7⟩
    have km7 : Blk w7 _ _ _ := Blk.on km6 hb7
    have kx7 : Blk w7 _ _ _ := Blk.on kx6 hb7
    have or7 := Rd3.on or6 hb7
    have ow7 := OI.on ow6 hb7
    have op7 := Blk.on op6 hb7
    have ox7 := Rd3.on ox6 hb7
    have og7 := OI.on og6 hb7
    have hB7 := on_ hB6 hb7
    clear rm6 zm6 rx6 zx6
    clear km6 kx6 or6 ow6 op6 ox6 og6 hB6
    have hsz7 := hb7.size
    clear hb7
    have rm7 := km7.rule
    have zm7 := km7.lt
    have rx7 := kx7.rule
    have zx7 := kx7.lt
    go_wp2
    go_region_held3 (fun w' => (∀ i, w'.cell? ⟨w4.heap.size, i, none⟩ = (#[.slice (some ⟨g4, 0, none⟩) vs.length vs.length] : Array Value)[i]?) ∧ (∀ i, w'.cell? ⟨w.heap.size, i, none⟩ = (#[.slice A vs.length c] : Array Value)[i]?))
      (first | exact ⟨kx9.rule, km9.rule⟩ | exact ⟨kx8.rule, km8.rule⟩ | exact ⟨rx7, rm7⟩)
      (first
        | (go_at_call 27; refine (toTally_any A c vs _ (by exact or7) hn').mono ?_; rintro e w8 ⟨g8, cs8, rfl, hg8, hq8, hp8, hb8⟩; have km8 : Blk w8 _ _ _ := Blk.on (w := w7.drew) km7 hb8; have kx8 : Blk w8 _ _ _ := Blk.on (w := w7.drew) kx7 hb8; have or8 := Rd3.on (w := w7.drew) or7 hb8; have ow8 := OI.on (w := w7.drew) ow7 hb8; have op8 := Blk.on (w := w7.drew) op7 hb8; have ox8 := Rd3.on (w := w7.drew) ox7 hb8; have og8 := OI.on (w := w7.drew) og7 hb8; have hB8 := on_ (hB7).drew hb8; have ot8 := hp8.rd hq8 hq8.lt)
        | (go_at_call 29; refine (eqTally_same _ _ _ _ vs _ (by exact ox8) (by exact ot8) hn').mono ?_; rintro e w9 ⟨rfl, hb9⟩; have km9 : Blk w9 _ _ _ := Blk.on km8 hb9; have kx9 : Blk w9 _ _ _ := Blk.on kx8 hb9; have or9 := Rd3.on or8 hb9; have ow9 := OI.on ow8 hb9; have op9 := Blk.on op8 hb9; have ox9 := Rd3.on ox8 hb9; have og9 := OI.on og8 hb9; have ot9 := Rd3.on ot8 hb9; have hB9 := on_ hB8 hb9))
    clear rm7 zm7 rx7 zx7
    clear km7 kx7 or7 ow7 op7 ox7 og7 hB7 km8 kx8 or8 ow8 op8 ox8 og8 ot8 hB8 hb8 hb9
    have rm9 := km9.rule
    have zm9 := km9.lt
    have rx9 := kx9.rule
    have zx9 := kx9.lt
    clear ot9 ox9
    go_wp2_with fail
    refine (markTally_any 1 g4 vs.length vs.length _ cs4 _ op9 HPC.out hn' (by omega) (by omega)).mono ?_
    rintro e w10 ⟨rfl, ds10, hd10, hsd10, hmk10, hgr10⟩
    have km10 := keepK km9 hgr10 (by simp; omega)
    have ow10 := OI.keep ow9 hgr10 (fun g' e' => by have := hl3 g' e'; simp; omega)
    have og10 := OI.keep og9 hgr10 (fun g' e' => by have := hog6 g' e'; simp; omega)
    have hB10 := hB9.trans (keepL hgr10 (fun g e => by injection e with e; omega) hB9.size)
    have or10 : Rd3 w10 w10.heap.size A vs := (HR0.out.below hB10).more hB10.size
    clear rm9 zm9 rx9 zx9
    clear km9 kx9 or9 ow9 op9 og9 hB9
    have rm10 := km10.rule
    have zm10 := km10.lt
    clear hd10 hsd10 hmk10 hgr10
    go_wp2_with fail
    refine (eqIntS_same _ _ _ _ xs _ (by exact og10.rd) (by exact ow10.rd) (by omega)).mono ?_
    rintro e w11 ⟨rfl, hb11⟩
    have km11 : Blk w11 _ _ _ := Blk.on km10 hb11
    have or11 := Rd3.on or10 hb11
    have ow11 := OI.on ow10 hb11
    have og11 := OI.on og10 hb11
    have hB11 := on_ hB10 hb11
    clear rm10 zm10
    clear km10 or10 ow10 og10 hB10
    clear hb11
    have rm11 := km11.rule
    have zm11 := km11.lt
    go_wp2_with fail
    refine (markI_own B6 _ _ _ xs 1 _ og11 (by omega) (by omega) (by omega)).mono ?_
    rintro e w12 ⟨rfl, og12, hbl12⟩
    have km12 := km11.below hbl12 (by omega)
    have ow12 := OI.low ow11 hbl12 (fun g' e' => by have := hl3 g' e'; omega)
    have hB12 := hB11.trans (hbl12.mono (by omega))
    have or12 : Rd3 w12 w12.heap.size A vs := (HR0.out.below hB12).more hB12.size
    clear hbl12
    clear rm11 zm11
    clear km11 or11 ow11 og11 hB11
    have rm12 := km12.rule
    have zm12 := km12.lt
    go_wp2_with fail
    refine (heldI_own B6 _ _ _ xs.length 1 _ og12 (by omega) (by omega) (by omega)).mono ?_
    rintro e w13 ⟨rfl, rfl⟩
    have hne : ((1 + (xs.length : Int)) != (1 + (xs.length : Int))) = false := by simp
    go_wp2_with fail
    refine (toTally_any A c vs _ or12 hn').mono ?_
    rintro e w13 ⟨g13, cs13, rfl, hg13, hq13, hp13, hb13⟩
    have km13 : Blk w13 _ _ _ := Blk.on km12 hb13
    have or13 := Rd3.on or12 hb13
    have ow13 := OI.on ow12 hb13
    have og13 := MI.on og12 hb13
    have hB13 := on_ hB12 hb13
    clear rm12 zm12
    clear km12 or12 ow12 og12 hB12
    have ot13 := hp13.rd hq13 hq13.lt
    clear hb13
    have rm13 := km13.rule
    have zm13 := km13.lt
    clear hp13 hq13 hg13 cs13
    go_wp2_with fail
    refine (HIM.out _ _ (by exact ot13)).mono ?_
    rintro e w14 ⟨B14, d14, rfl, hw14, hb14⟩
    have km14 : Blk w14 _ _ _ := Blk.on km13 hb14
    have or14 := Rd3.on or13 hb14
    have ow14 := OI.on ow13 hb14
    have og14 := MI.on og13 hb14
    have ot14 := Rd3.on ot13 hb14
    have hB14 := on_ hB13 hb14
    clear rm13 zm13
    clear km13 or13 ow13 og13 ot13 hB13
    have ou14 := hw14
    clear hb14
    have rm14 := km14.rule
    have zm14 := km14.lt
    clear hw14
    clear ot14
    go_wp2_with fail
    refine (eqIntS_same _ _ _ _ xs _ (by exact ou14.rd) (by exact ow14.rd) (by omega)).mono ?_
    rintro e w15 ⟨rfl, hb15⟩
    have km15 : Blk w15 _ _ _ := Blk.on km14 hb15
    have or15 := Rd3.on or14 hb15
    have ow15 := OI.on ow14 hb15
    have og15 := MI.on og14 hb15
    have ou15 := OI.on ou14 hb15
    have hB15 := on_ hB14 hb15
    clear rm14 zm14
    clear km14 or14 ow14 og14 ou14 hB14
    clear hb15
    have rm15 := km15.rule
    have zm15 := km15.lt
    go_wp2_with fail
    refine (heldI_own B6 _ _ _ xs.length 1 _ og15 (by omega) (by omega) (by omega)).mono ?_
    rintro e w16 ⟨rfl, rfl⟩
    go_wp2
    go_ret
    exact ⟨rfl, hB15⟩
theorem walk (A : Option Addr) (c : Nat) (vs : List B3) (w : World) (hm : vs.length ≤ maxLen) (hr : Rd3 w w.heap.size A vs) :
    Calls Try.prog 13 #[.agg #[.slice A vs.length c]] w fun e w' => e = .returned (.bool true) ∧ Below w.heap.size w w' :=
  walk0 A c vs (viewsR vs) w hm hr (fun hn => by unfold viewsR viewsK; split <;> first | (rw [List.length_map]; exact Nat.le_trans (List.length_filter_le _ _) (by simpa using hn)) | simp) (fun hn A W h => (specViews_any A _ vs W h hn).mono fun _ _ => nres_of) (fun hn A W h => (implViews_any A _ vs W h hn).mono fun _ _ => nres_of)

theorem own : ownKnob Try.prog.godebug = none := by kernel_rfl
theorem laidOut : laidOutB Try.prog = true := by kernel_rfl

set_option maxRecDepth 100000 in
theorem lifted (os : Os) (started : os.Started) (H : Type) (enc : TypeId × Value → H) :
    ReturnsInHanded {} Try.checked os 13 .any (Rows.fnExactViewsInSpec.pre6 enc Try.prog Try.f13 Rows.fnExactViewsInRow.domain false) (Rows.fnExactViewsInSpec.post enc Try.prog Try.f13 false true false false) := by
  refine returnsInHanded_of_change (C := Try.checked) own started (by kernel_rfl) Try.func13
    (ChangeSpec.witness6 (enc := enc) (C := Try.checked) false ⟨#[], #[.agg #[.slice none 0 0]], []⟩ 8 (by kernel_rfl) (by kernel_rfl) (by kernel_rfl) (by kernel_rfl)) ?_
  intro W base args ds gs before hval0 hW hcnd _
  have hval : ∀ (j : Nat) t v, Try.f13.params[j]? = some t → args[j]? = some v → Value.okWide Try.prog W .any base t v := hval0
  have hW' := hW
  obtain ⟨p, q, hA0, hV, rfl, hfz, hnd⟩ := hW
  have hA : DataW.TrodAll enc Try.prog W 0 (fun _ => true) true Try.f13.params.toList args.toList ds p := hA0
  rw [Try.params13] at hA hval
  obtain ⟨v0, d0, rfl, rfl, h0⟩ := trodAll_one hA
  obtain ⟨cs0, rfl, hsz0⟩ := okWide_struct Try.underlying26 (hval 0 26 v0 rfl rfl)
  obtain ⟨fuel0, hf0⟩ := h0
  obtain ⟨At, ct, st, hcs0, hmt, hrt⟩ := open_tally hf0
  obtain rfl : cs0 = #[.slice At st.length ct] := by
    obtain ⟨l⟩ := cs0
    simpa [Value.cells] using hcs0
  refine (walk At ct st W hmt hrt).mono fun e W' ⟨he, hb⟩ => ⟨_, he, law_post laidOut hW' hb rfl (by kernel_rfl) Try.underlying4 (by kernel_rfl) rfl⟩

theorem over : Rows.fnExactViewsInRow.holds Try.pinned (OpenSpec.ofChange Rows.fnExactViewsInSpec) :=
  OpenClaim.holds_of_wide 13 Try.f13 rfl rfl rfl rfl rfl rfl rfl ⟨rfl, rfl, rfl, rfl, rfl⟩ rfl rfl rfl rfl rfl (by kernel_rfl) Try.func13 (by kernel_rfl)
    (of_decide_eq_true (by kernel_rfl)) (by unfold Func.isWrapper; first | (rw [if_pos (by decide +kernel)]; kernel_rfl) | (rw [if_neg (by decide +kernel)]; exact ⟨rfl, rfl⟩))
    (fun os started H enc _ => lifted os started H enc)

theorem proved : Rows.FnExactViewsInSaid :=
  over
end Go.Proofs.Ytebcelebhlmfoaa.fnExactViewsIn
