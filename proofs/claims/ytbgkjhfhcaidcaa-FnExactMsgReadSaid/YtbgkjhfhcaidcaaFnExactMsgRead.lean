/-
  Proved here: for whatever bytes, MsgRead of the program answers as MsgRead of the model, both results; the bytes read afterwards as before, and each answer owns its memory. No condition.
-/
import Derived.Test.YtbgkjhfhcaidcaaRows
import Derived.Test.YtbgkjhfhcaidcaaToBytes
import Derived.Test.YtbgkjhfhcaidcaaMade
import Derived.Deep.RegionHeld3
import Derived.Deep.CutRange
set_option linter.unusedVariables false
namespace Go.Proofs.Ytbgkjhfhcaidcaa.fnExactMsgRead
open Go.RowKit Go.ChangeShapes Go.WideShapes Go.Proofs.Ytbgkjhfhcaidcaa.B Go.Proofs.Ytbgkjhfhcaidcaa.V

set_option maxHeartbeats 3200000 in
theorem walk (A : Option Addr) (c : Nat) (xs : List Int) (w : World) (hm : xs.length ≤ maxLen) (hx : By xs) (hr : RdB w w.heap.size A xs) :
    Calls Try.prog 7 #[.slice A xs.length c] w fun e w' => e = .returned (.bool true) ∧ Below w.heap.size w w' := by
  by_cases hn : (1048576 : Int) < xs.length
  · go_enter Try.func7, Try.ntmps7
    go_wp2
    go_ret
    exact ⟨rfl, Below.refl _ _⟩
  · have hn' : xs.length ≤ 1048576 := by omega
    obtain ⟨k2, v2, x2, a2, b2, q, us, hul, hsp, him⟩ := reads_both xs hx hn'
    have HSP := Lib.hid hsp; clear hsp
    have HIM := Lib.hid him; clear him hx hm
    have hnq : (q != q) = false := by simp
    have HR0 := Lib.hid hr
    have or0 := hr
    have hB0 := Below.refl w.heap.size w
    clear hr
    go_enter Try.func7, Try.ntmps7
    go_wp2_with fail
    refine (toByteS_any A c xs _ or0 hn').mono ?_
    rintro e w1 ⟨g1, cs1, rfl, hg1, hq1, hp1, hb1⟩
    have or1 := RdB.on or0 hb1
    have hB1 := on_ hB0 hb1
    have oy1 := hp1.rd hq1 hq1.lt
    clear hb1
    clear hp1 hq1 cs1
    have HS1 := Lib.hid hB1.size
    go_wp2_with fail
    refine (HSP.out _ _ (by exact oy1)).mono ?_
    rintro e w2 ⟨B2, d2, rfl, hw2, hb2⟩
    have or2 := RdB.on or1 hb2
    have oy2 := RdB.on oy1 hb2
    have hB2 := on_ hB1 hb2
    clear or1 oy1 hB1
    have ow2 := hw2
    clear hb2
    have hl2 := ow2.lt
    have HSZ := Lib.hid hB2.size
    clear hw2 hg1 HS1
    clear oy2
    have ks3 := Blk.new w2 38 #[.int .i64 k2, .int .i64 v2, .int .i64 x2, .int .i64 a2, .int .i64 b2, .slice B2 us.length d2]
    have or3 := RdB.up or2 (.cells #[.int .i64 k2, .int .i64 v2, .int .i64 x2, .int .i64 a2, .int .i64 b2, .slice B2 us.length d2] 38)
    have ow3 := OV.up ow2 (.cells #[.int .i64 k2, .int .i64 v2, .int .i64 x2, .int .i64 a2, .int .i64 b2, .slice B2 us.length d2] 38)
    have hB3 := up_ hB2 (.cells #[.int .i64 k2, .int .i64 v2, .int .i64 x2, .int .i64 a2, .int .i64 b2, .slice B2 us.length d2] 38)
    have hsz3 : (w2.alloc (.cells #[.int .i64 k2, .int .i64 v2, .int .i64 x2, .int .i64 a2, .int .i64 b2, .slice B2 us.length d2] 38)).heap.size = w2.heap.size + 1 := World.size_alloc _ _
    clear or2 ow2 hB2
    go_wp2_with fail
    generalize w2.alloc (.cells #[.int .i64 k2, .int .i64 v2, .int .i64 x2, .int .i64 a2, .int .i64 b2, .slice B2 us.length d2] 38) = w3 at *
    have rs3 := ks3.rule
    have zs3 := ks3.lt
    have hps : w2.heap.size < w3.heap.size := zs3
    have hl3 : ∀ g, B2 = some ⟨g, 0, none⟩ → g < w3.heap.size := fun g e => by have := hl2 g e; omega
    clear hsz3 hl2
    go_wp2_with fail
    refine (toByteS_any A c xs _ or3 hn').mono ?_
    rintro e w4 ⟨g4, cs4, rfl, hg4, hq4, hp4, hb4⟩
    have ks4 : Blk w4 _ _ _ := Blk.on ks3 hb4
    have or4 := RdB.on or3 hb4
    have ow4 := OV.on ow3 hb4
    have hB4 := on_ hB3 hb4
    clear rs3 zs3
    clear ks3 or3 ow3 hB3
    have op4 := hq4
    have ox4 := hp4.rd hq4 hq4.lt
    have hsz4 := hb4.size
    clear hb4
    have rs4 := ks4.rule
    have zs4 := ks4.lt
    have hzp4 := op4.lt
    have HPC := Lib.hid hp4.1
    clear hp4 hq4
    go_wp2_with fail
    refine (HIM.out _ _ (by exact ox4)).mono ?_
    rintro e w5 ⟨B5, d5, rfl, hw5, hb5⟩
    have ks5 : Blk w5 _ _ _ := Blk.on ks4 hb5
    have or5 := RdB.on or4 hb5
    have ow5 := OV.on ow4 hb5
    have op5 := Blk.on op4 hb5
    have ox5 := RdB.on ox4 hb5
    have hB5 := on_ hB4 hb5
    clear rs4 zs4
    clear ks4 or4 ow4 op4 ox4 hB4
    have og5 := hw5
    have hsz5 := hb5.size
    clear hb5
    have rs5 := ks5.rule
    have zs5 := ks5.lt
    have hog5 := og5.ge
    have hl5 := og5.lt
    clear hw5
    have kg6 := Blk.new w5 38 #[.int .i64 k2, .int .i64 v2, .int .i64 x2, .int .i64 a2, .int .i64 b2, .slice B5 us.length d5]
    have ks6 := Blk.alloc ks5 (.cells #[.int .i64 k2, .int .i64 v2, .int .i64 x2, .int .i64 a2, .int .i64 b2, .slice B5 us.length d5] 38)
    have or6 := RdB.up or5 (.cells #[.int .i64 k2, .int .i64 v2, .int .i64 x2, .int .i64 a2, .int .i64 b2, .slice B5 us.length d5] 38)
    have ow6 := OV.up ow5 (.cells #[.int .i64 k2, .int .i64 v2, .int .i64 x2, .int .i64 a2, .int .i64 b2, .slice B5 us.length d5] 38)
    have op6 := Blk.up op5 (.cells #[.int .i64 k2, .int .i64 v2, .int .i64 x2, .int .i64 a2, .int .i64 b2, .slice B5 us.length d5] 38)
    have ox6 := RdB.up ox5 (.cells #[.int .i64 k2, .int .i64 v2, .int .i64 x2, .int .i64 a2, .int .i64 b2, .slice B5 us.length d5] 38)
    have og6 := OV.up og5 (.cells #[.int .i64 k2, .int .i64 v2, .int .i64 x2, .int .i64 a2, .int .i64 b2, .slice B5 us.length d5] 38)
    have hB6 := up_ hB5 (.cells #[.int .i64 k2, .int .i64 v2, .int .i64 x2, .int .i64 a2, .int .i64 b2, .slice B5 us.length d5] 38)
    have hsz6 : (w5.alloc (.cells #[.int .i64 k2, .int .i64 v2, .int .i64 x2, .int .i64 a2, .int .i64 b2, .slice B5 us.length d5] 38)).heap.size = w5.heap.size + 1 := World.size_alloc _ _
    clear ks5 or5 ow5 op5 ox5 og5 hB5
    clear rs5 zs5
    have rrs := ks6.rule
    go_wp2_with fail
    generalize w5.alloc (.cells #[.int .i64 k2, .int .i64 v2, .int .i64 x2, .int .i64 a2, .int .i64 b2, .slice B5 us.length d5] 38) = w6 at *
    clear rrs
    have rs6 := ks6.rule
    have zs6 := ks6.lt
    have rg6 := kg6.rule
    have zg6 := kg6.lt
    clear hsz6
    refine (eqMsg_same k2 v2 x2 a2 b2 _ _ _ _ us _ (by exact og6.rd) (by exact ow6.rd) hul).mono ?_
    rintro e w7 ⟨rfl, hb7⟩
    have ks7 : Blk w7 _ _ _ := Blk.on ks6 hb7
    have kg7 : Blk w7 _ _ _ := Blk.on kg6 hb7
    have or7 := RdB.on or6 hb7
    have ow7 := OV.on ow6 hb7
    have op7 := Blk.on op6 hb7
    have ox7 := RdB.on ox6 hb7
    have og7 := OV.on og6 hb7
    have hB7 := on_ hB6 hb7
    clear rs6 zs6 rg6 zg6
    clear ks6 kg6 or6 ow6 op6 ox6 og6 hB6
    clear hb7
    have rs7 := ks7.rule
    have zs7 := ks7.lt
    have rg7 := kg7.rule
    have zg7 := kg7.lt
    go_wp2_with fail
    refine (toByteS_any A c xs _ or7 hn').mono ?_
    rintro e w8 ⟨g8, cs8, rfl, hg8, hq8, hp8, hb8⟩
    have ks8 : Blk w8 _ _ _ := Blk.on ks7 hb8
    have kg8 : Blk w8 _ _ _ := Blk.on kg7 hb8
    have or8 := RdB.on or7 hb8
    have ow8 := OV.on ow7 hb8
    have op8 := Blk.on op7 hb8
    have ox8 := RdB.on ox7 hb8
    have og8 := OV.on og7 hb8
    have hB8 := on_ hB7 hb8
    clear rs7 zs7 rg7 zg7
    clear ks7 kg7 or7 ow7 op7 ox7 og7 hB7
    have ot8 := hp8.rd hq8 hq8.lt
    clear hb8
    have rs8 := ks8.rule
    have zs8 := ks8.lt
    have rg8 := kg8.rule
    have zg8 := kg8.lt
    clear hp8 hq8 hg8 cs8
    go_wp2_with fail
    refine (eqByteS_same _ _ _ _ xs _ (by exact ox8) (by exact ot8) (by omega)).mono ?_
    rintro e w9 ⟨rfl, hb9⟩
    have ks9 : Blk w9 _ _ _ := Blk.on ks8 hb9
    have kg9 : Blk w9 _ _ _ := Blk.on kg8 hb9
    have or9 := RdB.on or8 hb9
    have ow9 := OV.on ow8 hb9
    have op9 := Blk.on op8 hb9
    have ox9 := RdB.on ox8 hb9
    have og9 := OV.on og8 hb9
    have ot9 := RdB.on ot8 hb9
    have hB9 := on_ hB8 hb9
    clear rs8 zs8 rg8 zg8
    clear ks8 kg8 or8 ow8 op8 ox8 og8 ot8 hB8
    clear hb9
    have rs9 := ks9.rule
    have zs9 := ks9.lt
    have rg9 := kg9.rule
    have zg9 := kg9.lt
    clear ot9 ox9
    have hw0 : w.heap.size ≤ w2.heap.size := by have := HSZ.out; omega
    go_wp2_with fail
    refine (markB_any g4 xs.length xs.length _ cs4 1 _ op9 HPC.out (by omega) (by omega) (by omega)).mono ?_
    rintro e w10 ⟨rfl, ds10, hd10, hsd10, hmk10, hgr10⟩
    have ks10 := keep_ ks9 hgr10 (by simp; omega)
    have kg10 := keep_ kg9 hgr10 (by simp; omega)
    have ow10 := OV.keep ow9 hgr10 (fun g' e' => by have := hl3 g' e'; simp; omega)
    have og10 := OV.keep og9 hgr10 (fun g' e' => by have := hog5 g' e'; simp; omega)
    have hB10 := hB9.trans (keepB hgr10 (fun g e => by injection e with e; omega) hB9.size)
    have or10 : RdB w10 w10.heap.size A xs := (HR0.out.below hB10).more hB10.size
    clear rs9 zs9 rg9 zg9
    clear ks9 kg9 or9 ow9 op9 og9 hB9
    have rs10 := ks10.rule
    have zs10 := ks10.lt
    have rg10 := kg10.rule
    have zg10 := kg10.lt
    clear hd10 hsd10 hmk10 hgr10
    go_wp2_with fail
    refine (eqMsg_same k2 v2 x2 a2 b2 _ _ _ _ us _ (by exact og10.rd) (by exact ow10.rd) hul).mono ?_
    rintro e w11 ⟨rfl, hb11⟩
    have ks11 : Blk w11 _ _ _ := Blk.on ks10 hb11
    have kg11 : Blk w11 _ _ _ := Blk.on kg10 hb11
    have or11 := RdB.on or10 hb11
    have ow11 := OV.on ow10 hb11
    have og11 := OV.on og10 hb11
    have hB11 := on_ hB10 hb11
    clear rs10 zs10 rg10 zg10
    clear ks10 kg10 or10 ow10 og10 hB10
    clear hb11
    have rs11 := ks11.rule
    have zs11 := ks11.lt
    have rg11 := kg11.rule
    have zg11 := kg11.lt
    go_wp2_with fail
    refine (mark_grow k2 v2 x2 a2 b2 1 B5 d5 _ _ us _ og11 hul (by omega) (by omega)).mono ?_
    rintro e w12 ⟨rfl, og12, row12, hrow12, hgr12⟩
    have ks12 := keep_ ks11 hgr12 (fun e => by have := hog5 _ (hrow12 _ e); have := hl5 _ (hrow12 _ e); omega)
    have kg12 := keep_ kg11 hgr12 (fun e => by have := hog5 _ (hrow12 _ e); have := hl5 _ (hrow12 _ e); omega)
    have ow12 := OV.keep ow11 hgr12 (fun g' e' e => by have := hl3 g' e'; have := hog5 _ (hrow12 _ e); omega)
    have hB12 := hB11.trans (keepB hgr12 (fun g e => by have := hog5 _ (hrow12 _ e); omega) hB11.size)
    have or12 : RdB w12 w12.heap.size A xs := (HR0.out.below hB12).more hB12.size
    clear rs11 zs11 rg11 zg11
    clear ks11 kg11 or11 ow11 og11 hB11
    have rs12 := ks12.rule
    have zs12 := ks12.lt
    have rg12 := kg12.rule
    have zg12 := kg12.lt
    clear hgr12 hrow12
    go_wp2_with fail
    refine (heldMsg_own k2 v2 x2 a2 b2 1 B5 d5 _ _ us.length _ og12 hul (by omega) (by omega)).mono ?_
    rintro e w13 ⟨rfl, hb13⟩
    have ks13 : Blk w13 _ _ _ := Blk.on ks12 hb13
    have kg13 : Blk w13 _ _ _ := Blk.on kg12 hb13
    have or13 := RdB.on or12 hb13
    have ow13 := OV.on ow12 hb13
    have og13 := MV.on og12 hb13
    have hB13 := on_ hB12 hb13
    clear rs12 zs12 rg12 zg12
    clear ks12 kg12 or12 ow12 og12 hB12
    clear hb13
    have rs13 := ks13.rule
    have zs13 := ks13.lt
    have rg13 := kg13.rule
    have zg13 := kg13.lt
    have hne : ((1 + 2 * (us.length : Int)) != (1 + 2 * (us.length : Int))) = false := by simp
    go_wp2_with fail
    refine (toByteS_any A c xs _ or13 hn').mono ?_
    rintro e w14 ⟨g14, cs14, rfl, hg14, hq14, hp14, hb14⟩
    have ks14 : Blk w14 _ _ _ := Blk.on ks13 hb14
    have kg14 : Blk w14 _ _ _ := Blk.on kg13 hb14
    have or14 := RdB.on or13 hb14
    have ow14 := OV.on ow13 hb14
    have og14 := MV.on og13 hb14
    have hB14 := on_ hB13 hb14
    clear rs13 zs13 rg13 zg13
    clear ks13 kg13 or13 ow13 og13 hB13
    have ot14 := hp14.rd hq14 hq14.lt
    clear hb14
    have rs14 := ks14.rule
    have zs14 := ks14.lt
    have rg14 := kg14.rule
    have zg14 := kg14.lt
    clear hp14 hq14 hg14 cs14
    go_wp2_with fail
    refine (HIM.out _ _ (by exact ot14)).mono ?_
    rintro e w15 ⟨B15, d15, rfl, hw15, hb15⟩
    have ks15 : Blk w15 _ _ _ := Blk.on ks14 hb15
    have kg15 : Blk w15 _ _ _ := Blk.on kg14 hb15
    have or15 := RdB.on or14 hb15
    have ow15 := OV.on ow14 hb15
    have og15 := MV.on og14 hb15
    have ot15 := RdB.on ot14 hb15
    have hB15 := on_ hB14 hb15
    clear rs14 zs14 rg14 zg14
    clear ks14 kg14 or14 ow14 og14 ot14 hB14
    have ou15 := hw15
    clear hb15
    have rs15 := ks15.rule
    have zs15 := ks15.lt
    have rg15 := kg15.rule
    have zg15 := kg15.lt
    clear hw15
    clear ot15
    have ku16 := Blk.new w15 38 #[.int .i64 k2, .int .i64 v2, .int .i64 x2, .int .i64 a2, .int .i64 b2, .slice B15 us.length d15]
    have ks16 := Blk.alloc ks15 (.cells #[.int .i64 k2, .int .i64 v2, .int .i64 x2, .int .i64 a2, .int .i64 b2, .slice B15 us.length d15] 38)
    have kg16 := Blk.alloc kg15 (.cells #[.int .i64 k2, .int .i64 v2, .int .i64 x2, .int .i64 a2, .int .i64 b2, .slice B15 us.length d15] 38)
    have or16 := RdB.up or15 (.cells #[.int .i64 k2, .int .i64 v2, .int .i64 x2, .int .i64 a2, .int .i64 b2, .slice B15 us.length d15] 38)
    have ow16 := OV.up ow15 (.cells #[.int .i64 k2, .int .i64 v2, .int .i64 x2, .int .i64 a2, .int .i64 b2, .slice B15 us.length d15] 38)
    have og16 := MV.up og15 (.cells #[.int .i64 k2, .int .i64 v2, .int .i64 x2, .int .i64 a2, .int .i64 b2, .slice B15 us.length d15] 38)
    have ou16 := OV.up ou15 (.cells #[.int .i64 k2, .int .i64 v2, .int .i64 x2, .int .i64 a2, .int .i64 b2, .slice B15 us.length d15] 38)
    have hB16 := up_ hB15 (.cells #[.int .i64 k2, .int .i64 v2, .int .i64 x2, .int .i64 a2, .int .i64 b2, .slice B15 us.length d15] 38)
    have hsz16 : (w15.alloc (.cells #[.int .i64 k2, .int .i64 v2, .int .i64 x2, .int .i64 a2, .int .i64 b2, .slice B15 us.length d15] 38)).heap.size = w15.heap.size + 1 := World.size_alloc _ _
    clear ks15 kg15 or15 ow15 og15 ou15 hB15
    clear rs15 zs15 rg15 zg15
    have rrs := ks16.rule
    have rrg := kg16.rule
    go_wp2_with fail
    generalize w15.alloc (.cells #[.int .i64 k2, .int .i64 v2, .int .i64 x2, .int .i64 a2, .int .i64 b2, .slice B15 us.length d15] 38) = w16 at *
    clear rrs rrg
    have rs16 := ks16.rule
    have zs16 := ks16.lt
    have rg16 := kg16.rule
    have zg16 := kg16.lt
    have ru16 := ku16.rule
    have zu16 := ku16.lt
    refine (eqMsg_same k2 v2 x2 a2 b2 _ _ _ _ us _ (by exact ou16.rd) (by exact ow16.rd) hul).mono ?_
    rintro e w17 ⟨rfl, hb17⟩
    have ks17 : Blk w17 _ _ _ := Blk.on ks16 hb17
    have kg17 : Blk w17 _ _ _ := Blk.on kg16 hb17
    have ku17 : Blk w17 _ _ _ := Blk.on ku16 hb17
    have or17 := RdB.on or16 hb17
    have ow17 := OV.on ow16 hb17
    have og17 := MV.on og16 hb17
    have ou17 := OV.on ou16 hb17
    have hB17 := on_ hB16 hb17
    clear rs16 zs16 rg16 zg16 ru16 zu16
    clear ks16 kg16 ku16 or16 ow16 og16 ou16 hB16
    clear hb17
    have rs17 := ks17.rule
    have zs17 := ks17.lt
    have rg17 := kg17.rule
    have zg17 := kg17.lt
    have ru17 := ku17.rule
    have zu17 := ku17.lt
    go_wp2_with fail
    refine (heldMsg_own k2 v2 x2 a2 b2 1 B5 d5 _ _ us.length _ og17 hul (by omega) (by omega)).mono ?_
    rintro e w18 ⟨rfl, hb18⟩
    have ks18 : Blk w18 _ _ _ := Blk.on ks17 hb18
    have kg18 : Blk w18 _ _ _ := Blk.on kg17 hb18
    have ku18 : Blk w18 _ _ _ := Blk.on ku17 hb18
    have or18 := RdB.on or17 hb18
    have ow18 := OV.on ow17 hb18
    have og18 := MV.on og17 hb18
    have ou18 := OV.on ou17 hb18
    have hB18 := on_ hB17 hb18
    clear rs17 zs17 rg17 zg17 ru17 zu17
    clear ks17 kg17 ku17 or17 ow17 og17 ou17 hB17
    clear hb18
    have rs18 := ks18.rule
    have zs18 := ks18.lt
    have rg18 := kg18.rule
    have zg18 := kg18.lt
    have ru18 := ku18.rule
    have zu18 := ku18.lt
    go_wp2
    go_ret
    exact ⟨rfl, hB18⟩

theorem own : ownKnob Try.prog.godebug = none := by kernel_rfl
theorem laidOut : laidOutB Try.prog = true := by kernel_rfl

set_option maxRecDepth 100000 in
theorem lifted (os : Os) (started : os.Started) (H : Type) (enc : TypeId × Value → H) :
    ReturnsInHanded {} Try.checked os 7 .any (Rows.fnExactMsgReadSpec.pre6 enc Try.prog Try.f7 Rows.fnExactMsgReadRow.domain false) (Rows.fnExactMsgReadSpec.post enc Try.prog Try.f7 false true false false) := by
  refine returnsInHanded_of_change (C := Try.checked) own started (by kernel_rfl) Try.func7
    (ChangeSpec.witness6 (enc := enc) (C := Try.checked) false ⟨#[], #[.slice none 0 0], []⟩ 8 (by kernel_rfl) (by kernel_rfl) (by kernel_rfl) (by kernel_rfl)) ?_
  intro W base args ds gs before hval0 hW hcnd _
  have hval : ∀ (j : Nat) t v, Try.f7.params[j]? = some t → args[j]? = some v → Value.okWide Try.prog W .any base t v := hval0
  have hW' := hW
  obtain ⟨p, q, hA0, hV, rfl, hfz, hnd⟩ := hW
  have hA : DataW.TrodAll enc Try.prog W 0 (fun _ => true) true Try.f7.params.toList args.toList ds p := hA0
  rw [Try.params7] at hA hval
  obtain ⟨v0, d0, rfl, rfl, h0⟩ := trodAll_one hA
  obtain ⟨a0, len0, cap0, rfl⟩ := okWide_slice Try.underlying42 (hval 0 42 v0 rfl rfl)
  obtain ⟨fuel0, hf0⟩ := h0
  obtain ⟨Ab, cb, b, hcs0, hmb, hxb, hrb⟩ := open_bytes hf0
  have hv0 : (Value.slice a0 len0 cap0) = .slice Ab b.length cb := by simpa [Value.cells] using hcs0
  rw [hv0] at hW' ⊢
  refine (walk Ab cb b W hmb hxb hrb).mono fun e W' ⟨he, hb⟩ => ⟨_, he, law_post laidOut hW' hb rfl (by kernel_rfl) Try.underlying4 (by kernel_rfl) rfl⟩

theorem over : Rows.fnExactMsgReadRow.holds Try.pinned (OpenSpec.ofChange Rows.fnExactMsgReadSpec) :=
  OpenClaim.holds_of_wide 7 Try.f7 rfl rfl rfl rfl rfl rfl rfl ⟨rfl, rfl, rfl, rfl, rfl⟩ rfl rfl rfl rfl rfl (by kernel_rfl) Try.func7 (by kernel_rfl)
    (of_decide_eq_true (by kernel_rfl)) (by unfold Func.isWrapper; first | (rw [if_pos (by decide +kernel)]; kernel_rfl) | (rw [if_neg (by decide +kernel)]; exact ⟨rfl, rfl⟩))
    (fun os started H enc _ => lifted os started H enc)

theorem proved : Rows.FnExactMsgReadSaid :=
  over
end Go.Proofs.Ytbgkjhfhcaidcaa.fnExactMsgRead
