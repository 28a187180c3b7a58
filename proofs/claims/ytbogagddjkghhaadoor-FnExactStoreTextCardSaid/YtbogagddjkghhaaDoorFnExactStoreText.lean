/-
  Proved here: for whatever store, StoreText of the program answers as StoreText of the model, the store reads afterwards as before, and the answer owns its memory. No condition.
-/
import Derived.Test.YtbogagddjkghhaaDoorRows
import Derived.Test.YtbogagddjkghhaaDoorCards
import Derived.Test.YtbogagddjkghhaaDoorTie
import Derived.Test.YtbogagddjkghhaaDoorDoor
import Derived.Test.YtbogagddjkghhaaDoorStT2
import Derived.Test.YtbogagddjkghhaaDoorTxK
import Derived.Test.YtbogagddjkghhaaDoorLift
import Derived.Deep.RegionHeld3
import Derived.SevenTiedAt
import Derived.OpenShut
import Derived.LaidMore
import Derived.Lay
import Derived.Stop.Joined
set_option linter.unusedVariables false
set_option maxRecDepth 100000
namespace Go.Proofs.YtbogagddjkghhaaDoor.fnExactStoreText
open Go.RowKit Go.ChangeShapes Go.WideShapes Go.Proofs.YtbogagddjkghhaaDoor.B Go.Proofs.YtbogagddjkghhaaDoor.V
theorem specNo (A : Option Addr) (c : Nat) (xs : List Int) (n : Int) (hq : stB xs n = false) (w : World) (hr : RdI w w.heap.size A xs) (hn : xs.length ≤ 1048576) : Calls Tryd.prog 35 #[.agg #[.slice A xs.length c, .int .i64 n]] w fun e w' => e = .returned (.slice none 0 0) ∧ Below w.heap.size w w' := by
  have hr1 := hr.up (.cells #[.slice A xs.length c, .int .i64 n] 46)
  go_enter Tryd.func35, Tryd.ntmps35
  go_wp2_with fail
  refine (specStoreOk_is false A c xs n hq _ (by exact hr1) hn).mono ?_
  rintro e w1 ⟨rfl, hb1⟩
  go_wp2
  go_ret
  exact ⟨rfl, on_ (up_ (Below.refl _ _) _) hb1⟩
theorem implNo (A : Option Addr) (c : Nat) (xs : List Int) (n : Int) (hq : stB xs n = false) (w : World) (hr : RdI w w.heap.size A xs) (hn : xs.length ≤ 1048576) : Calls Tryd.prog 24 #[.agg #[.slice A xs.length c, .int .i64 n]] w fun e w' => e = .returned (.slice none 0 0) ∧ Below w.heap.size w w' := by
  have hr1 := hr.up (.cells #[.slice A xs.length c, .int .i64 n] 46)
  go_enter Tryd.func24, Tryd.ntmps24
  go_wp2_with fail
  refine (implStoreOk_is false A c xs n hq _ (by exact hr1) hn).mono ?_
  rintro e w1 ⟨rfl, hb1⟩
  go_wp2
  go_ret
  exact ⟨rfl, on_ (up_ (Below.refl _ _) _) hb1⟩
theorem growB7 {w w' : World} {base : Nat} {row : Option Nat} (hgr : w.grownBy w' row) (hg : ∀ g, row = some g → base ≤ g) (hw : base ≤ w.heap.size) : Below base w w' :=
  ⟨hgr.os, hgr.tape, hgr.output, hgr.size, fun i hi => hgr.block i (by omega) (fun e => by have := hg i e.symm; omega)⟩
set_option maxHeartbeats 6400000 in
theorem walkY (A : Option Addr) (c : Nat) (vs bs : List Int) (k : Int) (hl : bs.length ≤ 24) (w : World) (htab : TabAt w) (hn' : vs.length ≤ 1048576) (hm : vs.length ≤ maxLen) (hr : RdI w w.heap.size A vs)
    (hsp : ∀ (A : Option Addr) (c : Nat) (W : World), RdI W W.heap.size A vs → Calls Tryd.prog 35 #[.agg #[.slice A vs.length c, .int .i64 k]] W (TX bs W))
    (him : ∀ (A : Option Addr) (c : Nat) (W : World), TabAt W → RdI W W.heap.size A vs → Calls Tryd.prog 24 #[.agg #[.slice A vs.length c, .int .i64 k]] W (TX bs W)) :
    Calls Tryd.prog 6 #[.agg #[.slice A vs.length c, .int .i64 k]] w fun e w' => e = .returned (.bool true) ∧ Below w.heap.size w w' := by
  have HSP := Lib.hid hsp; have HIM := Lib.hid him; have HTAB := Lib.hid htab
  have hne : ((1 + (bs.length : Int)) != (1 + (bs.length : Int))) = false := by simp
  clear hsp him htab
  have hkm := Blk.new w 68 #[.slice A vs.length c, .int .i64 k]
  have hr0 := hr.up (.cells #[.slice A vs.length c, .int .i64 k] 68)
  have HR0 := Lib.hid hr
  have hsz0 := szStore_small A vs.length c k 1048576 (w.alloc (.cells #[.slice A vs.length c, .int .i64 k] 68)) hm (by omega) (by omega) (by omega)
  have HSZ := Lib.hid hsz0; clear hsz0 hr hm
  go_enter Tryd.func6, Tryd.ntmps6
  go_wp2_with fail
  refine HSZ.out.mono ?_
  rintro e w1 ⟨rfl, hb1⟩
  have km1 := hkm.on hb1
  have or1 := RdI.on hr0 hb1
  have hB1 := on_ (up_ (Below.refl w.heap.size w) _) hb1
  clear hkm hr0 hb1 HSZ
  have rm1 := km1.rule
  have zm1 := km1.lt
  have hlm1 : w.heap.size < w1.heap.size := zm1
  go_wp2_with fail
  refine (toStore_any A c vs k _ or1 hn').mono ?_
  rintro e w2 ⟨g2, cs2, rfl, hg2, hq2, hp2, hb2⟩
  have km2 : Blk w2 _ _ _ := Blk.on km1 hb2
  have or2 := RdI.on or1 hb2
  have hB2 := on_ hB1 hb2
  clear rm1 zm1
  clear km1 or1 hB1
  have oy2 := hp2.rd hq2 hq2.lt
  have hsz2 := hb2.size
  clear hb2
  have rm2 := km2.rule
  have zm2 := km2.lt
  clear hp2 hq2 hg2 cs2
  go_wp2_with fail
  refine (HSP.out _ _ _ (by exact oy2)).mono ?_
  rintro e w3 ⟨ga, ca, rfl, hga, hca, hb3⟩
  have km3 : Blk w3 _ _ _ := Blk.on km2 hb3
  have or3 := RdI.on or2 hb3
  have oy3 := RdI.on oy2 hb3
  have hB3 := on_ hB2 hb3
  clear rm2 zm2
  clear km2 or2 oy2 hB2
  have oa3 := Rd8.of hca
  have hsz3 := hb3.size
  clear hb3
  have rm3 := km3.rule
  have zm3 := km3.lt
  have hla3 := hca.lt
  clear hca
  clear oy3
  go_wp2_with fail
  refine (toStore_any A c vs k _ or3 hn').mono ?_
  rintro e w4 ⟨g4, cs4, rfl, hg4, hq4, hp4, hb4⟩
  have km4 : Blk w4 _ _ _ := Blk.on km3 hb4
  have or4 := RdI.on or3 hb4
  have oa4 := Rd8.on oa3 hb4
  have hB4 := on_ hB3 hb4
  clear rm3 zm3
  clear km3 or3 oa3 hB3
  have ox4 := hp4.rd hq4 hq4.lt
  have op4 := hq4
  have hsz4 := hb4.size
  clear hb4
  have rm4 := km4.rule
  have zm4 := km4.lt
  have hlp4 := op4.lt
  have HPC := Lib.hid (show vs.length ≤ cs4.size by have := hp4.1; omega)
  clear hp4 hq4
  have kx5 := Blk.new w4 46 #[.slice (some ⟨g4, 0, none⟩) vs.length vs.length, .int .i64 k]
  have km5 := Blk.alloc km4 (.cells #[.slice (some ⟨g4, 0, none⟩) vs.length vs.length, .int .i64 k] 46)
  have or5 := RdI.up or4 (.cells #[.slice (some ⟨g4, 0, none⟩) vs.length vs.length, .int .i64 k] 46)
  have oa5 := Rd8.up oa4 (.cells #[.slice (some ⟨g4, 0, none⟩) vs.length vs.length, .int .i64 k] 46)
  have ox5 := RdI.up ox4 (.cells #[.slice (some ⟨g4, 0, none⟩) vs.length vs.length, .int .i64 k] 46)
  have op5 := Blk.up op4 (.cells #[.slice (some ⟨g4, 0, none⟩) vs.length vs.length, .int .i64 k] 46)
  have hB5 := up_ hB4 (.cells #[.slice (some ⟨g4, 0, none⟩) vs.length vs.length, .int .i64 k] 46)
  have hsz5 : (w4.alloc (.cells #[.slice (some ⟨g4, 0, none⟩) vs.length vs.length, .int .i64 k] 46)).heap.size = w4.heap.size + 1 := World.size_alloc _ _
  clear km4 or4 oa4 ox4 op4 hB4
  clear rm4 zm4
  have rrm := km5.rule
  go_wp2_with fail
  generalize w4.alloc (.cells #[.slice (some ⟨g4, 0, none⟩) vs.length vs.length, .int .i64 k] 46) = w5 at *
  clear rrm
  have rm5 := km5.rule
  have zm5 := km5.lt
  have rx5 := kx5.rule
  have zx5 := kx5.lt
  have hlx5 : w4.heap.size < w5.heap.size := zx5
  clear hsz5
  refine (HIM.out _ _ _ (tab_on HTAB.out hB5) (by exact ox5)).mono ?_
  rintro e w6 ⟨gb, cb, rfl, hgb, hcb, hb6⟩
  have km6 : Blk w6 _ _ _ := Blk.on km5 hb6
  have kx6 : Blk w6 _ _ _ := Blk.on kx5 hb6
  have or6 := RdI.on or5 hb6
  have oa6 := Rd8.on oa5 hb6
  have ox6 := RdI.on ox5 hb6
  have op6 := Blk.on op5 hb6
  have hB6 := on_ hB5 hb6
  clear rm5 zm5 rx5 zx5
  clear km5 kx5 or5 oa5 ox5 op5 hB5
  have ob6 := hcb
  have hsz6 := hb6.size
  clear hb6
  have rm6 := km6.rule
  have zm6 := km6.lt
  have rx6 := kx6.rule
  have zx6 := kx6.lt
  have hlb6 := hcb.lt
  clear hcb
  go_wp2_with fail
  refine (eqByteS_same (some ⟨gb, 0, none⟩) (some ⟨ga, 0, none⟩) cb ca bs w6 (Rd8.of ob6) oa6 (by omega)).mono ?_
  rintro e w7 ⟨rfl, hb7⟩
  have km7 : Blk w7 _ _ _ := Blk.on km6 hb7
  have kx7 : Blk w7 _ _ _ := Blk.on kx6 hb7
  have or7 := RdI.on or6 hb7
  have oa7 := Rd8.on oa6 hb7
  have ox7 := RdI.on ox6 hb7
  have op7 := Blk.on op6 hb7
  have ob7 := CRow.on ob6 hb7
  have hB7 := on_ hB6 hb7
  clear rm6 zm6 rx6 zx6
  clear km6 kx6 or6 oa6 ox6 op6 ob6 hB6
  have hsz7 := hb7.size
  clear hb7
  have rm7 := km7.rule
  have zm7 := km7.lt
  have rx7 := kx7.rule
  have zx7 := kx7.lt
  go_wp2
  go_region_held3 (fun w' => (∀ i, w'.cell? ⟨w4.heap.size, i, none⟩ = (#[.slice (some ⟨g4, 0, none⟩) vs.length vs.length, .int .i64 k] : Array Value)[i]?) ∧ (∀ i, w'.cell? ⟨w.heap.size, i, none⟩ = (#[.slice A vs.length c, .int .i64 k] : Array Value)[i]?))
    (first | exact ⟨kx9.rule, km9.rule⟩ | exact ⟨kx8.rule, km8.rule⟩ | exact ⟨rx7, rm7⟩)
    (first
      | (go_at_call 36; refine (toStore_any A c vs k _ (by exact or7) hn').mono ?_; rintro e w8 ⟨g8, cs8, rfl, hg8, hq8, hp8, hb8⟩; have km8 : Blk w8 _ _ _ := Blk.on (w := w7.drew) km7 hb8; have kx8 : Blk w8 _ _ _ := Blk.on (w := w7.drew) kx7 hb8; have or8 := RdI.on (w := w7.drew) or7 hb8; have oa8 := Rd8.on (w := w7.drew) oa7 hb8; have ox8 := RdI.on (w := w7.drew) ox7 hb8; have op8 := Blk.on (w := w7.drew) op7 hb8; have ob8 := CRow.on (crow_dr ob7) hb8; have hB8 := on_ (hB7).drew hb8; have on8 := hp8.rd hq8 hq8.lt)
      | (go_at_call 37; refine (eqStore_same _ _ _ _ vs k _ (by exact ox8) (by exact on8) hn').mono ?_; rintro e w9 ⟨rfl, hb9⟩; have km9 : Blk w9 _ _ _ := Blk.on km8 hb9; have kx9 : Blk w9 _ _ _ := Blk.on kx8 hb9; have or9 := RdI.on or8 hb9; have oa9 := Rd8.on oa8 hb9; have ox9 := RdI.on ox8 hb9; have op9 := Blk.on op8 hb9; have ob9 := CRow.on ob8 hb9; have on9 := RdI.on on8 hb9; have hB9 := on_ hB8 hb9))
  have hsz9 : w7.heap.size ≤ w9.heap.size := Nat.le_trans (show w7.heap.size ≤ w8.heap.size from hb8.size) hb9.size
  clear rm7 zm7 rx7 zx7
  clear km7 kx7 or7 oa7 ox7 op7 ob7 hB7 km8 kx8 or8 oa8 ox8 op8 ob8 on8 hB8 hb8 hb9
  have rm9 := km9.rule
  have zm9 := km9.lt
  have rx9 := kx9.rule
  have zx9 := kx9.lt
  clear on9 ox9
  go_wp2_with fail
  refine (markStore_any 1 g4 vs.length vs.length _ cs4 _ _ op9 HPC.out hn' (by omega) (by omega)).mono ?_
  rintro e w10 ⟨rfl, ds10, hd10, hsd10, hmk10, hgr10⟩
  have km10 := Blk.keep km9 hgr10 (by simp; omega)
  have kx10 := Blk.keep kx9 hgr10 (by simp; omega)
  have oa10 := Rd8.keep oa9 hgr10 (fun g' e' => by injection e' with e'; injection e' with e'; simp; omega)
  have ob10 := CRow.grown ob9 hgr10 (by simp; omega)
  have hB10 := hB9.trans (growB7 hgr10 (fun g e => by injection e with e; omega) hB9.size)
  have or10 : RdI w10 w10.heap.size A vs := (HR0.out.below hB10).more hB10.size
  have hsz10 := hgr10.size
  clear rm9 zm9 rx9 zx9
  clear km9 kx9 or9 oa9 op9 ob9 hB9
  have rm10 := km10.rule
  have zm10 := km10.lt
  have rx10 := kx10.rule
  have zx10 := kx10.lt
  clear hd10 hsd10 hmk10 hgr10
  go_wp2_with fail
  refine (eqByteS_same (some ⟨gb, 0, none⟩) (some ⟨ga, 0, none⟩) cb ca bs w10 (Rd8.of ob10) oa10 (by omega)).mono ?_
  rintro e w11 ⟨rfl, hb11⟩
  have km11 : Blk w11 _ _ _ := Blk.on km10 hb11
  have kx11 : Blk w11 _ _ _ := Blk.on kx10 hb11
  have or11 := RdI.on or10 hb11
  have oa11 := Rd8.on oa10 hb11
  have ob11 := CRow.on ob10 hb11
  have hB11 := on_ hB10 hb11
  clear rm10 zm10 rx10 zx10
  clear km10 kx10 or10 oa10 ob10 hB10
  have hsz11 := hb11.size
  clear hb11
  have rm11 := km11.rule
  have zm11 := km11.lt
  have rx11 := kx11.rule
  have zx11 := kx11.lt
  go_wp2_with fail
  refine (markByteS_any gb cb bs 1 w11 ob11 (by omega) (by omega)).mono ?_
  rintro e w12 ⟨rfl, hc12, hgr12⟩
  have km12 := Blk.keep km11 hgr12 (by simp; omega)
  have kx12 := Blk.keep kx11 hgr12 (by simp; omega)
  have oa12 := Rd8.keep oa11 hgr12 (fun g' e' => by injection e' with e'; injection e' with e'; simp; omega)
  have hB12 := hB11.trans (growB7 hgr12 (fun g e => by injection e with e; omega) hB11.size)
  have or12 : RdI w12 w12.heap.size A vs := (HR0.out.below hB12).more hB12.size
  have hsz12 := hgr12.size
  clear rm11 zm11 rx11 zx11
  clear km11 kx11 or11 oa11 ob11 hB11
  have rm12 := km12.rule
  have zm12 := km12.lt
  have rx12 := kx12.rule
  have zx12 := kx12.lt
  have ob12 := hc12
  clear hc12 hgr12
  go_wp2_with fail
  refine (heldByteS_any gb cb bs 1 w12 ob12 (by omega) (by omega)).mono ?_
  rintro e w13 ⟨rfl, hb13⟩
  have km13 : Blk w13 _ _ _ := Blk.on km12 hb13
  have kx13 : Blk w13 _ _ _ := Blk.on kx12 hb13
  have or13 := RdI.on or12 hb13
  have oa13 := Rd8.on oa12 hb13
  have ob13 := CRow.on ob12 hb13
  have hB13 := on_ hB12 hb13
  clear rm12 zm12 rx12 zx12
  clear km12 kx12 or12 oa12 ob12 hB12
  have hsz13 := hb13.size
  clear hb13
  have rm13 := km13.rule
  have zm13 := km13.lt
  have rx13 := kx13.rule
  have zx13 := kx13.lt
  go_wp2_with fail
  refine (toStore_any A c vs k _ or13 hn').mono ?_
  rintro e w14 ⟨g14, cs14, rfl, hg14, hq14, hp14, hb14⟩
  have km14 : Blk w14 _ _ _ := Blk.on km13 hb14
  have kx14 : Blk w14 _ _ _ := Blk.on kx13 hb14
  have or14 := RdI.on or13 hb14
  have oa14 := Rd8.on oa13 hb14
  have ob14 := CRow.on ob13 hb14
  have hB14 := on_ hB13 hb14
  clear rm13 zm13 rx13 zx13
  clear km13 kx13 or13 oa13 ob13 hB13
  have oy14 := hp14.rd hq14 hq14.lt
  have hsz14 := hb14.size
  clear hb14
  have rm14 := km14.rule
  have zm14 := km14.lt
  have rx14 := kx14.rule
  have zx14 := kx14.lt
  clear hp14 hq14 hg14 cs14
  go_wp2_with fail
  refine (HIM.out _ _ _ (tab_on HTAB.out hB14) (by exact oy14)).mono ?_
  rintro e w15 ⟨gd, cd, rfl, hgd, hcd, hb15⟩
  have km15 : Blk w15 _ _ _ := Blk.on km14 hb15
  have kx15 : Blk w15 _ _ _ := Blk.on kx14 hb15
  have or15 := RdI.on or14 hb15
  have oa15 := Rd8.on oa14 hb15
  have ob15 := CRow.on ob14 hb15
  have oy15 := RdI.on oy14 hb15
  have hB15 := on_ hB14 hb15
  clear rm14 zm14 rx14 zx14
  clear km14 kx14 or14 oa14 ob14 oy14 hB14
  have od15 := Rd8.of hcd
  have hsz15 := hb15.size
  clear hb15
  have rm15 := km15.rule
  have zm15 := km15.lt
  have rx15 := kx15.rule
  have zx15 := kx15.lt
  clear hcd
  go_wp2_with fail
  refine (eqByteS_same (some ⟨gd, 0, none⟩) (some ⟨ga, 0, none⟩) cd ca bs w15 od15 oa15 (by omega)).mono ?_
  rintro e w16 ⟨rfl, hb16⟩
  have km16 : Blk w16 _ _ _ := Blk.on km15 hb16
  have kx16 : Blk w16 _ _ _ := Blk.on kx15 hb16
  have or16 := RdI.on or15 hb16
  have oa16 := Rd8.on oa15 hb16
  have ob16 := CRow.on ob15 hb16
  have oy16 := RdI.on oy15 hb16
  have od16 := Rd8.on od15 hb16
  have hB16 := on_ hB15 hb16
  clear rm15 zm15 rx15 zx15
  clear km15 kx15 or15 oa15 ob15 oy15 od15 hB15
  have hsz16 := hb16.size
  clear hb16
  have rm16 := km16.rule
  have zm16 := km16.lt
  have rx16 := kx16.rule
  have zx16 := kx16.lt
  go_wp2_with fail
  refine (heldByteS_any gb cb bs 1 w16 ob16 (by omega) (by omega)).mono ?_
  rintro e w17 ⟨rfl, hb17⟩
  have km17 : Blk w17 _ _ _ := Blk.on km16 hb17
  have kx17 : Blk w17 _ _ _ := Blk.on kx16 hb17
  have or17 := RdI.on or16 hb17
  have oa17 := Rd8.on oa16 hb17
  have ob17 := CRow.on ob16 hb17
  have oy17 := RdI.on oy16 hb17
  have od17 := Rd8.on od16 hb17
  have hB17 := on_ hB16 hb17
  clear rm16 zm16 rx16 zx16
  clear km16 kx16 or16 oa16 ob16 oy16 od16 hB16
  have hsz17 := hb17.size
  clear hb17
  have rm17 := km17.rule
  have zm17 := km17.lt
  have rx17 := kx17.rule
  have zx17 := kx17.lt
  go_wp2
  go_ret
  exact ⟨rfl, hB17⟩
set_option maxHeartbeats 6400000 in
theorem walkN (A : Option Addr) (c : Nat) (vs : List Int) (k : Int) (w : World) (hn' : vs.length ≤ 1048576) (hm : vs.length ≤ maxLen) (hr : RdI w w.heap.size A vs)
    (hsp : ∀ (A : Option Addr) (c : Nat) (W : World), RdI W W.heap.size A vs → Calls Tryd.prog 35 #[.agg #[.slice A vs.length c, .int .i64 k]] W fun e w' => e = .returned (.slice none 0 0) ∧ Below W.heap.size W w')
    (him : ∀ (A : Option Addr) (c : Nat) (W : World), RdI W W.heap.size A vs → Calls Tryd.prog 24 #[.agg #[.slice A vs.length c, .int .i64 k]] W fun e w' => e = .returned (.slice none 0 0) ∧ Below W.heap.size W w') :
    Calls Tryd.prog 6 #[.agg #[.slice A vs.length c, .int .i64 k]] w fun e w' => e = .returned (.bool true) ∧ Below w.heap.size w w' := by
  have HSP := Lib.hid hsp; have HIM := Lib.hid him
  clear hsp him
  have hkm := Blk.new w 68 #[.slice A vs.length c, .int .i64 k]
  have hr0 := hr.up (.cells #[.slice A vs.length c, .int .i64 k] 68)
  have HR0 := Lib.hid hr
  have hsz0 := szStore_small A vs.length c k 1048576 (w.alloc (.cells #[.slice A vs.length c, .int .i64 k] 68)) hm (by omega) (by omega) (by omega)
  have HSZ := Lib.hid hsz0; clear hsz0 hr hm
  go_enter Tryd.func6, Tryd.ntmps6
  go_wp2_with fail
  refine HSZ.out.mono ?_
  rintro e w1 ⟨rfl, hb1⟩
  have km1 := hkm.on hb1
  have or1 := RdI.on hr0 hb1
  have hB1 := on_ (up_ (Below.refl w.heap.size w) _) hb1
  clear hkm hr0 hb1 HSZ
  have rm1 := km1.rule
  have zm1 := km1.lt
  have hlm1 : w.heap.size < w1.heap.size := zm1
  go_wp2_with fail
  refine (toStore_any A c vs k _ or1 hn').mono ?_
  rintro e w2 ⟨g2, cs2, rfl, hg2, hq2, hp2, hb2⟩
  have km2 : Blk w2 _ _ _ := Blk.on km1 hb2
  have or2 := RdI.on or1 hb2
  have hB2 := on_ hB1 hb2
  clear rm1 zm1
  clear km1 or1 hB1
  have oy2 := hp2.rd hq2 hq2.lt
  have hsz2 := hb2.size
  clear hb2
  have rm2 := km2.rule
  have zm2 := km2.lt
  clear hp2 hq2 hg2 cs2
  go_wp2_with fail
  refine (HSP.out _ _ _ (by exact oy2)).mono ?_
  rintro e w3 ⟨rfl, hb3⟩
  have km3 : Blk w3 _ _ _ := Blk.on km2 hb3
  have or3 := RdI.on or2 hb3
  have oy3 := RdI.on oy2 hb3
  have hB3 := on_ hB2 hb3
  clear rm2 zm2
  clear km2 or2 oy2 hB2
  have hsz3 := hb3.size
  clear hb3
  have rm3 := km3.rule
  have zm3 := km3.lt
  clear oy3
  go_wp2_with fail
  refine (toStore_any A c vs k _ or3 hn').mono ?_
  rintro e w4 ⟨g4, cs4, rfl, hg4, hq4, hp4, hb4⟩
  have km4 : Blk w4 _ _ _ := Blk.on km3 hb4
  have or4 := RdI.on or3 hb4
  have hB4 := on_ hB3 hb4
  clear rm3 zm3
  clear km3 or3 hB3
  have ox4 := hp4.rd hq4 hq4.lt
  have op4 := hq4
  have hsz4 := hb4.size
  clear hb4
  have rm4 := km4.rule
  have zm4 := km4.lt
  have hlp4 := op4.lt
  have HPC := Lib.hid (show vs.length ≤ cs4.size by have := hp4.1; omega)
  clear hp4 hq4
  have kx5 := Blk.new w4 46 #[.slice (some ⟨g4, 0, none⟩) vs.length vs.length, .int .i64 k]
  have km5 := Blk.alloc km4 (.cells #[.slice (some ⟨g4, 0, none⟩) vs.length vs.length, .int .i64 k] 46)
  have or5 := RdI.up or4 (.cells #[.slice (some ⟨g4, 0, none⟩) vs.length vs.length, .int .i64 k] 46)
  have ox5 := RdI.up ox4 (.cells #[.slice (some ⟨g4, 0, none⟩) vs.length vs.length, .int .i64 k] 46)
  have op5 := Blk.up op4 (.cells #[.slice (some ⟨g4, 0, none⟩) vs.length vs.length, .int .i64 k] 46)
  have hB5 := up_ hB4 (.cells #[.slice (some ⟨g4, 0, none⟩) vs.length vs.length, .int .i64 k] 46)
  have hsz5 : (w4.alloc (.cells #[.slice (some ⟨g4, 0, none⟩) vs.length vs.length, .int .i64 k] 46)).heap.size = w4.heap.size + 1 := World.size_alloc _ _
  clear km4 or4 ox4 op4 hB4
  clear rm4 zm4
  have rrm := km5.rule
  go_wp2_with fail
  generalize w4.alloc (.cells #[.slice (some ⟨g4, 0, none⟩) vs.length vs.length, .int .i64 k] 46) = w5 at *
  clear rrm
  have rm5 := km5.rule
  have zm5 := km5.lt
  have rx5 := kx5.rule
  have zx5 := kx5.lt
  have hlx5 : w4.heap.size < w5.heap.size := zx5
  clear hsz5
  refine (HIM.out _ _ _ (by exact ox5)).mono ?_
  rintro e w6 ⟨rfl, hb6⟩
  have km6 : Blk w6 _ _ _ := Blk.on km5 hb6
  have kx6 : Blk w6 _ _ _ := Blk.on kx5 hb6
  have or6 := RdI.on or5 hb6
  have ox6 := RdI.on ox5 hb6
  have op6 := Blk.on op5 hb6
  have hB6 := on_ hB5 hb6
  clear rm5 zm5 rx5 zx5
  clear km5 kx5 or5 ox5 op5 hB5
  have hsz6 := hb6.size
  clear hb6
  have rm6 := km6.rule
  have zm6 := km6.lt
  have rx6 := kx6.rule
  have zx6 := kx6.lt
  go_wp2_with fail
  refine (eqByteS_same none none 0 0 [] w6 (fun h => absurd h (by simp)) (fun h => absurd h (by simp)) (by simp)).mono ?_
  rintro e w7 ⟨rfl, hb7⟩
  have km7 : Blk w7 _ _ _ := Blk.on km6 hb7
  have kx7 : Blk w7 _ _ _ := Blk.on kx6 hb7
  have or7 := RdI.on or6 hb7
  have ox7 := RdI.on ox6 hb7
  have op7 := Blk.on op6 hb7
  have hB7 := on_ hB6 hb7
  clear rm6 zm6 rx6 zx6
  clear km6 kx6 or6 ox6 op6 hB6
  have hsz7 := hb7.size
  clear hb7
  have rm7 := km7.rule
  have zm7 := km7.lt
  have rx7 := kx7.rule
  have zx7 := kx7.lt
  go_wp2
  go_region_held3 (fun w' => (∀ i, w'.cell? ⟨w4.heap.size, i, none⟩ = (#[.slice (some ⟨g4, 0, none⟩) vs.length vs.length, .int .i64 k] : Array Value)[i]?) ∧ (∀ i, w'.cell? ⟨w.heap.size, i, none⟩ = (#[.slice A vs.length c, .int .i64 k] : Array Value)[i]?))
    (first | exact ⟨kx9.rule, km9.rule⟩ | exact ⟨kx8.rule, km8.rule⟩ | exact ⟨rx7, rm7⟩)
    (first
      | (go_at_call 36; refine (toStore_any A c vs k _ (by exact or7) hn').mono ?_; rintro e w8 ⟨g8, cs8, rfl, hg8, hq8, hp8, hb8⟩; have km8 : Blk w8 _ _ _ := Blk.on (w := w7.drew) km7 hb8; have kx8 : Blk w8 _ _ _ := Blk.on (w := w7.drew) kx7 hb8; have or8 := RdI.on (w := w7.drew) or7 hb8; have ox8 := RdI.on (w := w7.drew) ox7 hb8; have op8 := Blk.on (w := w7.drew) op7 hb8; have hB8 := on_ (hB7).drew hb8; have on8 := hp8.rd hq8 hq8.lt)
      | (go_at_call 37; refine (eqStore_same _ _ _ _ vs k _ (by exact ox8) (by exact on8) hn').mono ?_; rintro e w9 ⟨rfl, hb9⟩; have km9 : Blk w9 _ _ _ := Blk.on km8 hb9; have kx9 : Blk w9 _ _ _ := Blk.on kx8 hb9; have or9 := RdI.on or8 hb9; have ox9 := RdI.on ox8 hb9; have op9 := Blk.on op8 hb9; have on9 := RdI.on on8 hb9; have hB9 := on_ hB8 hb9))
  have hsz9 : w7.heap.size ≤ w9.heap.size := Nat.le_trans (show w7.heap.size ≤ w8.heap.size from hb8.size) hb9.size
  clear rm7 zm7 rx7 zx7
  clear km7 kx7 or7 ox7 op7 hB7 km8 kx8 or8 ox8 op8 on8 hB8 hb8 hb9
  have rm9 := km9.rule
  have zm9 := km9.lt
  have rx9 := kx9.rule
  have zx9 := kx9.lt
  clear on9 ox9
  go_wp2_with fail
  refine (markStore_any 1 g4 vs.length vs.length _ cs4 _ _ op9 HPC.out hn' (by omega) (by omega)).mono ?_
  rintro e w10 ⟨rfl, ds10, hd10, hsd10, hmk10, hgr10⟩
  have km10 := Blk.keep km9 hgr10 (by simp; omega)
  have kx10 := Blk.keep kx9 hgr10 (by simp; omega)
  have hB10 := hB9.trans (growB7 hgr10 (fun g e => by injection e with e; omega) hB9.size)
  have or10 : RdI w10 w10.heap.size A vs := (HR0.out.below hB10).more hB10.size
  have hsz10 := hgr10.size
  clear rm9 zm9 rx9 zx9
  clear km9 kx9 or9 op9 hB9
  have rm10 := km10.rule
  have zm10 := km10.lt
  have rx10 := kx10.rule
  have zx10 := kx10.lt
  clear hd10 hsd10 hmk10 hgr10
  go_wp2_with fail
  refine (eqByteS_same none none 0 0 [] w10 (fun h => absurd h (by simp)) (fun h => absurd h (by simp)) (by simp)).mono ?_
  rintro e w11 ⟨rfl, hb11⟩
  have km11 : Blk w11 _ _ _ := Blk.on km10 hb11
  have kx11 : Blk w11 _ _ _ := Blk.on kx10 hb11
  have or11 := RdI.on or10 hb11
  have hB11 := on_ hB10 hb11
  clear rm10 zm10 rx10 zx10
  clear km10 kx10 or10 hB10
  have hsz11 := hb11.size
  clear hb11
  have rm11 := km11.rule
  have zm11 := km11.lt
  have rx11 := kx11.rule
  have zx11 := kx11.lt
  go_wp2_with fail
  refine (markNil none 0 1 w11).mono ?_
  rintro e w99 ⟨rfl, h9⟩; obtain rfl := h9.symm
  go_wp2_with fail
  refine (heldNil none 0 1 w11).mono ?_
  rintro e w99 ⟨rfl, h9⟩; obtain rfl := h9.symm
  go_wp2_with fail
  refine (toStore_any A c vs k _ or11 hn').mono ?_
  rintro e w12 ⟨g12, cs12, rfl, hg12, hq12, hp12, hb12⟩
  have km12 : Blk w12 _ _ _ := Blk.on km11 hb12
  have kx12 : Blk w12 _ _ _ := Blk.on kx11 hb12
  have or12 := RdI.on or11 hb12
  have hB12 := on_ hB11 hb12
  clear rm11 zm11 rx11 zx11
  clear km11 kx11 or11 hB11
  have oy12 := hp12.rd hq12 hq12.lt
  have hsz12 := hb12.size
  clear hb12
  have rm12 := km12.rule
  have zm12 := km12.lt
  have rx12 := kx12.rule
  have zx12 := kx12.lt
  clear hp12 hq12 hg12 cs12
  go_wp2_with fail
  refine (HIM.out _ _ _ (by exact oy12)).mono ?_
  rintro e w13 ⟨rfl, hb13⟩
  have km13 : Blk w13 _ _ _ := Blk.on km12 hb13
  have kx13 : Blk w13 _ _ _ := Blk.on kx12 hb13
  have or13 := RdI.on or12 hb13
  have oy13 := RdI.on oy12 hb13
  have hB13 := on_ hB12 hb13
  clear rm12 zm12 rx12 zx12
  clear km12 kx12 or12 oy12 hB12
  have hsz13 := hb13.size
  clear hb13
  have rm13 := km13.rule
  have zm13 := km13.lt
  have rx13 := kx13.rule
  have zx13 := kx13.lt
  go_wp2_with fail
  refine (eqByteS_same none none 0 0 [] w13 (fun h => absurd h (by simp)) (fun h => absurd h (by simp)) (by simp)).mono ?_
  rintro e w14 ⟨rfl, hb14⟩
  have km14 : Blk w14 _ _ _ := Blk.on km13 hb14
  have kx14 : Blk w14 _ _ _ := Blk.on kx13 hb14
  have or14 := RdI.on or13 hb14
  have oy14 := RdI.on oy13 hb14
  have hB14 := on_ hB13 hb14
  clear rm13 zm13 rx13 zx13
  clear km13 kx13 or13 oy13 hB13
  have hsz14 := hb14.size
  clear hb14
  have rm14 := km14.rule
  have zm14 := km14.lt
  have rx14 := kx14.rule
  have zx14 := kx14.lt
  go_wp2_with fail
  refine (heldNil none 0 1 w14).mono ?_
  rintro e w99 ⟨rfl, h9⟩; obtain rfl := h9.symm
  go_wp2
  go_ret
  exact ⟨rfl, hB14⟩
theorem walk (A : Option Addr) (c : Nat) (vs : List Int) (k : Int) (w : World) (htab : TabAt w) (hm : vs.length ≤ maxLen) (hr : RdI w w.heap.size A vs) :
    Calls Tryd.prog 6 #[.agg #[.slice A vs.length c, .int .i64 k]] w fun e w' => e = .returned (.bool true) ∧ Below w.heap.size w w' := by
  by_cases hn : (1048576 : Int) < vs.length
  · go_enter Tryd.func6, Tryd.ntmps6
    go_wp2_with fail
    refine (szStore_big A vs.length c k _ _ hm (by omega) (by omega) hn).mono ?_
    rintro e w1 ⟨rfl, hb1⟩
    go_wp2
    go_ret
    exact ⟨rfl, on_ (up_ (Below.refl _ _) _) hb1⟩
  have hn' : vs.length ≤ 1048576 := by omega
  rcases hq : stB vs k with _ | _
  · exact walkN A c vs k w hn' hm hr (fun A c W h => specNo A c vs k hq W h hn') (fun A c W h => implNo A c vs k hq W h hn')
  · obtain ⟨l4, h0, h1, hall⟩ := stB_yes hq
    obtain ⟨m, rfl⟩ : ∃ m : Nat, k = m := ⟨k.toNat, by omega⟩
    exact walkY A c vs (stT vs m 4) m (stT_len4 vs m l4 (by omega) (fun j hj => (hall j (by omega)).2)) w htab hn' hm hr (fun A c W h => specST A c vs m W h hq) (fun A c W ht h => implST A c vs m W ht h hq)

theorem closed : joinedFacts Tryd.prog 6 Tryd.f6 Rows.fnExactStoreTextSpec Rows.fnExactStoreTextRow = true := by
  unfold joinedFacts
  rw [D.make_is, D.enter_is, D.final_is]
  kernel_rfl

set_option maxRecDepth 100000 in
theorem lifted (os : Os) (started : os.Started) (H : Type) (enc : TypeId × Value → H) :
    ReturnsInHanded {} Tryd.checked os 6 .any (fun w args => (Rows.fnExactStoreTextSpec.pre enc Tryd.prog Tryd.f6 Rows.fnExactStoreTextRow.domain false w args ∧ laidMetH Tryd.prog Rows.fnExactStoreTextRow.laid w) ∧ sizedMet enc Tryd.prog Tryd.f6 (OpenSpec.ofChange Rows.fnExactStoreTextSpec) false w args)
      (Rows.fnExactStoreTextSpec.post enc Tryd.prog Tryd.f6 false true false false) := by
  refine returnsInHanded_of_change_and (C := Tryd.checked) (X := fun w _ => laidMetH Tryd.prog Rows.fnExactStoreTextRow.laid w) (fun _ _ _ hh h => h.of_heap hh) D.own started (by kernel_rfl) Tryd.func6
    (ChangeSpec.witness_shaped (enc := enc) (C := Tryd.checked) (os := os) (X := fun w _ => laidMetH Tryd.prog Rows.fnExactStoreTextRow.laid w) false (World.laidAll Tryd.prog os Rows.fnExactStoreTextRow.laid) #[.agg #[.slice none 0 0, .int .i64 0]] 8 (World.laidAll_os _ _ _)
      (World.shaped_of_ZipB (by kernel_rfl) (by kernel_rfl)) (by kernel_rfl) (by kernel_rfl) (by kernel_rfl)
      (by rw [MakeChecks.laidMetH_plain _ _ _ (by kernel_rfl)]; exact laidMet_laidAll _ (by kernel_rfl) (by kernel_rfl))) ?_
  intro W base args ds gs before hval0 hW hcnd _ hL _
  have hval : ∀ (j : Nat) t v, Tryd.f6.params[j]? = some t → args[j]? = some v → Value.okWide Tryd.prog W .any base t v := hval0
  have hW' := hW
  obtain ⟨p, q, hA0, hV, rfl, hfz, hnd⟩ := hW
  have hA : DataW.TrodAll enc Tryd.prog W 0 (fun _ => true) true Tryd.f6.params.toList args.toList ds p := hA0
  rw [Tryd.params6] at hA hval
  obtain ⟨v0, d0, rfl, rfl, h0⟩ := trodAll_one hA
  obtain ⟨cs0, rfl, hsz0⟩ := okWide_struct Tryd.underlying68 (hval 0 68 v0 rfl rfl)
  obtain ⟨fuel0, hf0⟩ := h0
  obtain ⟨At, ct, st, kt, hcs0, hmt, hrt⟩ := open_store hf0
  obtain rfl : cs0 = #[.slice At st.length ct, .int .i64 kt] := by
    obtain ⟨l⟩ := cs0
    simpa [Value.cells] using hcs0
  refine (walk At ct st kt W (tab_of_laid hL) hmt hrt).mono fun e W' ⟨he, hb⟩ => ⟨_, he, law_post D.laidOut hW' hb rfl (by kernel_rfl) Tryd.underlying4 (by kernel_rfl) rfl⟩

theorem over : Rows.fnExactStoreTextRow.holds Tryd.pinned (OpenSpec.ofChange Rows.fnExactStoreTextSpec) :=
  OpenClaim.holds_of_wide 6 Tryd.f6 rfl rfl rfl rfl rfl rfl rfl ⟨rfl, rfl, rfl, rfl, rfl⟩ rfl rfl rfl rfl rfl (by kernel_rfl) Tryd.func6 closed
    (of_decide_eq_true (by kernel_rfl)) (by unfold Func.isWrapper; first | (rw [if_pos (by decide +kernel)]; kernel_rfl) | (rw [if_neg (by decide +kernel)]; exact ⟨rfl, rfl⟩))
    (fun os started H enc _ => lifted os started H enc)

theorem proved : Rows.FnExactStoreTextCardSaid :=
  Claim7.holds_tied_plain_at .later [] [.data, .data, .data] true Rows.fnExactStoreTextCard.stood.harness Rows.fnExactStoreTextCard.stood.looks over (fun _ h => by cases h) (by kernel_rfl) (fun _ h => by cases h) fnExactStoreText_row_tie rfl ⟨rfl, rfl⟩ (by kernel_rfl) rfl
    (fun f fn hf hfn => by
      obtain rfl : f = 6 := Option.some.inj ((show Tryd.prog.funcNamed "loop.example/g00567/laws.FnExactStoreText" = some 6 by kernel_rfl).symm.trans hf) |>.symm
      obtain rfl : fn = Tryd.f6 := (Option.some.inj (Tryd.func6.symm.trans hfn)).symm
      exact ⟨by kernel_rfl, fun j t ht => by
        rw [Tryd.params6] at ht
        have hall : (∀ u ∈ Tryd.f6.params.toList, Tryd.prog.wantsStandIn u = false) := by rw [Tryd.params6]; simp only [List.mem_cons, List.not_mem_nil, or_false]; rintro u rfl; kernel_rfl
        rw [Tryd.params6] at hall
        exact hall t (by simpa using Array.mem_of_getElem? ht)⟩)
    (by kernel_rfl)
end Go.Proofs.YtbogagddjkghhaaDoor.fnExactStoreText
