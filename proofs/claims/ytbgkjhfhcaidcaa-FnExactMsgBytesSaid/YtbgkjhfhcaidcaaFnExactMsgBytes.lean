/-
  Proved here: for every message, MsgBytes of the program answers as MsgBytes of the model, both results; the message reads afterwards as before, and each answer owns its memory. No condition.
-/
import Derived.Test.YtbgkjhfhcaidcaaRows
import Derived.Test.YtbgkjhfhcaidcaaOwns
import Derived.Test.YtbgkjhfhcaidcaaMsgBytes2
import Derived.Deep.RegionHeld3
set_option linter.unusedVariables false
namespace Go.Proofs.Ytbgkjhfhcaidcaa.fnExactMsgBytes
open Go.RowKit Go.ChangeShapes Go.WideShapes Go.Proofs.Ytbgkjhfhcaidcaa.B Go.Proofs.Ytbgkjhfhcaidcaa.V

set_option maxHeartbeats 1600000 in
theorem walk (k v x a b : Int) (A : Option Addr) (c : Nat) (vs : List (Int × Int)) (w : World) (hm : vs.length ≤ maxLen) (hr : Rd w w.heap.size A vs) :
    Calls Try.prog 6 #[.agg #[.int .i64 k, .int .i64 v, .int .i64 x, .int .i64 a, .int .i64 b, .slice A vs.length c]] w fun e w' => e = .returned (.bool true) ∧ Below w.heap.size w w' := by
  by_cases hn : (1048576 : Int) < vs.length
  · go_enter Try.func6, Try.ntmps6
    go_wp2_with fail
    refine (szMsg_big k v x a b A c vs _ hm hn).mono ?_
    rintro e w1 ⟨rfl, hb1⟩
    go_wp2
    go_ret
    exact ⟨rfl, on_ (up_ (Below.refl _ _) _) hb1⟩
  · have hn' : vs.length ≤ 1048576 := by omega
    have km0 := Blk.new w 33 #[.int .i64 k, .int .i64 v, .int .i64 x, .int .i64 a, .int .i64 b, .slice A vs.length c]
    have HR0 := Lib.hid hr
    have hr0 := fun O => hr.up O
    have HR := Lib.hid hr0; clear hr0 hr hm
    have hB0 := Below.refl w.heap.size w
    go_enter Try.func6, Try.ntmps6
    go_wp2_with fail
    refine (szMsg_small k v x a b A c vs _ hn').mono ?_
    rintro e w1 ⟨rfl, hb1⟩
    have km1 := Blk.on km0 hb1
    have rm1 := km1.rule
    have zm1 := km1.lt
    have hB1 := on_ (up_ hB0 _) hb1
    have hr1 := (HR.out _).on hb1
    clear hb1 km0 hB0
    go_wp2_with fail
    refine (toMsg_any k v x a b A c vs _ hr1 hn').mono ?_
    rintro e w2 ⟨g2, cs2, rfl, hg2, hq2, hp2, hb2⟩
    have km2 := Blk.on km1 hb2
    have rm2 := km2.rule
    have zm2 := km2.lt
    have hB2 := on_ hB1 hb2
    have hr2 := Rd.on hr1 hb2
    have hs2 := hp2.rd hq2 hq2.lt
    clear hb2 km1 rm1 zm1 hB1 hr1
    clear hq2 hp2 hg2
    obtain ⟨q, hq⟩ : ∃ q, msgOkB k v x a b vs = q := ⟨_, rfl⟩
    have HQ := Lib.hid hq; clear hq
    have hxl : (bytesR q k v x a b vs).length ≤ 16777216 := by
      unfold bytesR
      split
      · rw [msgBytesL_len k v x a b vs vs.length (Nat.le_refl _)]; omega
      · simp
    have HSB := Lib.hid (fun A c W h => specMsgBytes_is q k v x a b A c vs HQ.out W h hn')
    have HIB := Lib.hid (fun A c W h => implMsgBytes_is q k v x a b A c vs HQ.out W h hn')
    generalize bytesR q k v x a b vs = xs at *
    have hnq : (q != q) = false := by simp
    go_wp2_with fail
    refine (HSB.out _ _ _ hs2).mono ?_
    rintro e w3 ⟨B3, d3, rfl, ho3, hb3⟩
    have km3 := Blk.on km2 hb3
    have rm3 := km3.rule
    have zm3 := km3.lt
    have hB3 := on_ hB2 hb3
    have hr3 := Rd.on hr2 hb3
    have hs3 := Rd.on hs2 hb3
    clear hb3 km2 rm2 zm2 hB2 hr2 hs2
    have hl3 := ho3.lt
    have zz3 : w.heap.size < w3.heap.size := zm3
    clear hs3
    go_wp2_with fail
    refine (toMsg_any k v x a b A c vs _ hr3 hn').mono ?_
    rintro e w4 ⟨g4, cs4, rfl, hg4, hq4, hp4, hb4⟩
    have km4 := Blk.on km3 hb4
    have rm4 := km4.rule
    have zm4 := km4.lt
    have hB4 := on_ hB3 hb4
    have hr4 := Rd.on hr3 hb4
    have hs4 := hp4.rd hq4 hq4.lt
    have ho3 := OB.on ho3 hb4
    clear hb4 km3 rm3 zm3 hB3 hr3
    have kx0 := Blk.new w4 38 #[.int .i64 k, .int .i64 v, .int .i64 x, .int .i64 a, .int .i64 b, .slice (some ⟨g4, 0, none⟩) vs.length vs.length]
    have hg4l := hq4.lt
    have hk4 := hq4
    go_wp2_with fail
    refine (HIB.out _ _ _ (hs4.up _)).mono ?_
    rintro e w5 ⟨B5, d5, rfl, ho5, hb5⟩
    have km5 := Blk.on (km4.alloc _) hb5
    have rm5 := km5.rule
    have zm5 := km5.lt
    have kx5 := Blk.on kx0 hb5
    have rx5 := kx5.rule
    have zx5 := kx5.lt
    have hB5 := on_ (up_ hB4 _) hb5
    have hr5 := Rd.on (Rd.up hr4 _) hb5
    have hs5 := Rd.on (Rd.up hs4 _) hb5
    have ho3 := OB.on (OB.up ho3 _) hb5
    have hk5 := Blk.on (hk4.alloc _) hb5
    have hge5 : ∀ g, B5 = some ⟨g, 0, none⟩ → w4.heap.size + 1 ≤ g := by simpa using ho5.ge
    clear hb5 km4 rm4 zm4 kx0 hB4 hr4 hs4
    clear hk4 hq4
    go_wp2_with fail
    refine (eqByteS_same B5 B3 _ _ xs _ ho5.rd ho3.rd hxl).mono ?_
    rintro e w6 ⟨rfl, hb6⟩
    have km6 := Blk.on km5 hb6
    have rm6 := km6.rule
    have zm6 := km6.lt
    have kx6 := Blk.on kx5 hb6
    have rx6 := kx6.rule
    have zx6 := kx6.lt
    have hB6 := on_ hB5 hb6
    have hr6 := Rd.on hr5 hb6
    have hs6 := Rd.on hs5 hb6
    have ho3 := OB.on ho3 hb6
    have ho5 := OB.on ho5 hb6
    have hk6 := hk5.on hb6
    clear hb6 km5 rm5 zm5 kx5 rx5 zx5 hB5 hr5 hs5
    clear hk5
    go_wp2
    go_region_held3 (fun w' => (∀ i, w'.cell? ⟨w4.heap.size, i, none⟩ = (#[.int .i64 k, .int .i64 v, .int .i64 x, .int .i64 a, .int .i64 b, .slice (some ⟨g4, 0, none⟩) vs.length vs.length] : Array Value)[i]?) ∧ (∀ i, w'.cell? ⟨w.heap.size, i, none⟩ = (#[.int .i64 k, .int .i64 v, .int .i64 x, .int .i64 a, .int .i64 b, .slice A vs.length c] : Array Value)[i]?))
      (first | exact ⟨kx8.rule, km8.rule⟩ | exact ⟨kx7.rule, km7.rule⟩ | exact ⟨rx6, rm6⟩)
      (first
        | (go_at_call 22; refine (toMsg_any k v x a b A c vs _ (by exact hr6) hn').mono ?_; rintro e w7 ⟨g7, cs7, rfl, hg7, hq7, hp7, hb7⟩; have kx7 : Blk w7 _ _ _ := Blk.on (w := w6.drew) kx6 hb7; have km7 : Blk w7 _ _ _ := Blk.on (w := w6.drew) km6 hb7; have hB7 := on_ hB6.drew hb7; have hs7 := Rd.on (w := w6.drew) hs6 hb7; have ht7 := hp7.rd hq7 hq7.lt; have p3a := OB.on (w := w6.drew) ho3 hb7; have p5a := OB.on (w := w6.drew) ho5 hb7; have pka := Blk.on (w := w6.drew) hk6 hb7)
        | (go_at_call 24; refine (eqMsg_same k v x a b _ _ _ _ vs _ (by exact hs7) (by exact ht7) hn').mono ?_; rintro e w8 ⟨rfl, hb8⟩; have kx8 := kx7.on hb8; have km8 := km7.on hb8; have hB8 := on_ hB7 hb8; have p3b := p3a.on hb8; have p5b := p5a.on hb8; have pkb := pka.on hb8))
    have zm8 := km8.lt
    have rm8 := km8.rule
    have rx8 := kx8.rule
    have zx8 := kx8.lt
    have HPC := Lib.hid (show vs.length * 2 ≤ cs4.size by have := hp4.1; omega)
    go_wp2_with fail
    refine (markMsg_any k v x a b 1 g4 vs.length vs.length _ cs4 _ pkb HPC.out hn' (by omega) (by omega)).mono ?_
    rintro e w9 ⟨rfl, ds9, hd9, hsz9, hmk9, hgr9⟩
    clear hsz9 hmk9 hd9
    have km9 := km8.farm hgr9 (by omega)
    have rm9 := km9.rule
    have zm9 := km9.lt
    have hB9 := hB8.trans (below_grown hgr9 (by omega) hB8.size)
    have ho3 := p3b.far hgr9 (fun g' e' => by have := hl3 g' e'; omega)
    have ho5 := p5b.far hgr9 (fun g' e' => by have := hge5 g' e'; omega)
    have hr9 : Rd w9 w9.heap.size A vs := (HR0.out.below hB9).more hB9.size
    have zz9 : w4.heap.size + 1 ≤ w9.heap.size := by have := hgr9.size; omega
    clear rm8 rx8 zx8 km8 kx8
    go_wp2_with fail
    refine (eqByteS_same B5 B3 _ _ xs _ ho5.rd ho3.rd hxl).mono ?_
    rintro e w10 ⟨rfl, hb10⟩
    have km10 := km9.on hb10
    have rm10 := km10.rule
    have zm10 := km10.lt
    have hB10 := on_ hB9 hb10
    have ho3 := ho3.on hb10
    have ho5 := ho5.on hb10
    have hr10 := hr9.on hb10
    have hz10 : w4.heap.size + 1 ≤ w10.heap.size := by have := hb10.size; omega
    clear km9 rm9 zm9 hb10 hB9 hr9
    go_wp2_with fail
    refine (markB_own B5 _ _ _ xs 1 _ ho5 hxl (by omega) (by omega)).mono ?_
    rintro e w11 ⟨rfl, hmb11, hb11⟩
    have hz11 : w10.heap.size ≤ w11.heap.size := hb11.size
    have km11 : Blk w11 _ _ _ := km10.below hb11 (by simp; omega)
    have rm11 := km11.rule
    have zm11 := km11.lt
    have hB11 := hB10.trans (hb11.mono (by simp; omega))
    have ho3 := ho3.low hb11 (fun g' e' => by have := hl3 g' e'; simp; omega)
    have hr11 : Rd w11 w11.heap.size A vs := (HR0.out.below hB11).more hB11.size
    clear km10 rm10 zm10 hb11 hB10 hr10 ho5
    go_wp2_with fail
    refine (heldB_own B5 _ _ _ xs.length 1 _ hmb11 hxl (by omega) (by omega)).mono ?_
    rintro e w12 ⟨rfl, rfl⟩
    have hne : ((1 + (xs.length : Int)) != (1 + (xs.length : Int))) = false := by simp
    go_wp2_with fail
    refine (toMsg_any k v x a b A c vs _ hr11 hn').mono ?_
    rintro e w13 ⟨g13, cs13, rfl, hg13, hq13, hp13, hb13⟩
    have hB13 := on_ hB11 hb13
    have ho3 := ho3.on hb13
    have hmb13 := hmb11.on hb13
    have hs13 := hp13.rd hq13 hq13.lt
    clear hb13 hB11 hg13 hq13 hp13 hmb11
    go_wp2_with fail
    refine (HIB.out _ _ _ hs13).mono ?_
    rintro e w14 ⟨B14, d14, rfl, ho14, hb14⟩
    have hB14 := on_ hB13 hb14
    have ho3 := ho3.on hb14
    have hmb14 := hmb13.on hb14
    clear hb14 hB13 hmb13
    go_wp2_with fail
    refine (eqByteS_same B14 B3 _ _ xs _ ho14.rd ho3.rd hxl).mono ?_
    rintro e w15 ⟨rfl, hb15⟩
    have hB15 := on_ hB14 hb15
    have hmb15 := hmb14.on hb15
    clear hb15 hB14 hmb14
    go_wp2_with fail
    refine (heldB_own B5 _ _ _ xs.length 1 _ hmb15 hxl (by omega) (by omega)).mono ?_
    rintro e w16 ⟨rfl, rfl⟩
    go_wp2
    go_ret
    exact ⟨rfl, hB15⟩

theorem own : ownKnob Try.prog.godebug = none := by kernel_rfl
theorem laidOut : laidOutB Try.prog = true := by kernel_rfl

set_option maxRecDepth 100000 in
theorem lifted (os : Os) (started : os.Started) (H : Type) (enc : TypeId × Value → H) :
    ReturnsInHanded {} Try.checked os 6 .any (Rows.fnExactMsgBytesSpec.pre6 enc Try.prog Try.f6 Rows.fnExactMsgBytesRow.domain false) (Rows.fnExactMsgBytesSpec.post enc Try.prog Try.f6 false true false false) := by
  refine returnsInHanded_of_change (C := Try.checked) own started (by kernel_rfl) Try.func6
    (ChangeSpec.witness6 (enc := enc) (C := Try.checked) false ⟨#[], #[.agg #[.int .i64 0, .int .i64 0, .int .i64 0, .int .i64 0, .int .i64 0, .slice none 0 0]], []⟩ 8 (by kernel_rfl) (by kernel_rfl) (by kernel_rfl) (by kernel_rfl)) ?_
  intro W base args ds gs before hval0 hW hcnd _
  have hval : ∀ (j : Nat) t v, Try.f6.params[j]? = some t → args[j]? = some v → Value.okWide Try.prog W .any base t v := hval0
  have hW' := hW
  obtain ⟨p, q, hA0, hV, rfl, hfz, hnd⟩ := hW
  have hA : DataW.TrodAll enc Try.prog W 0 (fun _ => true) true Try.f6.params.toList args.toList ds p := hA0
  rw [Try.params6] at hA hval
  obtain ⟨v0, d0, rfl, rfl, h0⟩ := trodAll_one hA
  obtain ⟨cs0, rfl, hsz0⟩ := okWide_struct Try.underlying33 (hval 0 33 v0 rfl rfl)
  obtain ⟨fuel0, hf0⟩ := h0
  obtain ⟨km, vm, xm, am, bm, Am, cm, sm, hcs0, hmm, hrm⟩ := open_msg hf0
  obtain rfl : cs0 = #[.int .i64 km, .int .i64 vm, .int .i64 xm, .int .i64 am, .int .i64 bm, .slice Am sm.length cm] := by
    obtain ⟨l⟩ := cs0
    simpa [Value.cells] using hcs0
  refine (walk km vm xm am bm Am cm sm W hmm hrm).mono fun e W' ⟨he, hb⟩ => ⟨_, he, law_post laidOut hW' hb rfl (by kernel_rfl) Try.underlying4 (by kernel_rfl) rfl⟩

theorem over : Rows.fnExactMsgBytesRow.holds Try.pinned (OpenSpec.ofChange Rows.fnExactMsgBytesSpec) :=
  OpenClaim.holds_of_wide 6 Try.f6 rfl rfl rfl rfl rfl rfl rfl ⟨rfl, rfl, rfl, rfl, rfl⟩ rfl rfl rfl rfl rfl (by kernel_rfl) Try.func6 (by kernel_rfl)
    (of_decide_eq_true (by kernel_rfl)) (by unfold Func.isWrapper; first | (rw [if_pos (by decide +kernel)]; kernel_rfl) | (rw [if_neg (by decide +kernel)]; exact ⟨rfl, rfl⟩))
    (fun os started H enc _ => lifted os started H enc)

theorem proved : Rows.FnExactMsgBytesSaid :=
  over
end Go.Proofs.Ytbgkjhfhcaidcaa.fnExactMsgBytes
