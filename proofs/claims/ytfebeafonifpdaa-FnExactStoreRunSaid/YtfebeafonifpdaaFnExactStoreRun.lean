/-
  Proved here: for whatever store and list of values, StoreRun of the program answers as StoreRun of the model; the store and the list read afterwards as before, and each answer owns its memory. No condition.
-/
import Derived.Test.YtfebeafonifpdaaRows
import Derived.Test.YtfebeafonifpdaaDoor
import Derived.Test.YtfebeafonifpdaaStRp
import Derived.Test.YtfebeafonifpdaaStM2
import Derived.Deep.RegionHeld3
set_option linter.unusedVariables false
set_option maxRecDepth 100000
namespace Go.Proofs.Ytfebeafonifpdaa.fnExactStoreRun
open Go.RowKit Go.ChangeShapes Go.WideShapes Go.Proofs.Ytfebeafonifpdaa.B Go.Proofs.Ytfebeafonifpdaa.V

set_option maxHeartbeats 6400000 in
theorem walk0 (A C : Option Addr) (c e0 : Nat) (vs l us ts : List Int) (k m : Int) (q : Bool) (w : World) (hm : vs.length ≤ maxLen) (hml : l.length ≤ maxLen) (hul : us.length ≤ 1048576) (htl : ts.length ≤ 1048576) (hr : RdI w w.heap.size A vs) (hq : RdI w w.heap.size C l)
    (hsp : (vs.length ≤ 1048576 → l.length ≤ 1048576 → ∀ (A C : Option Addr) (W : World), RdI W W.heap.size A vs → RdI W W.heap.size C l → Calls Try.prog 47 #[.agg #[.slice A vs.length vs.length, .int .i64 k], .slice C l.length l.length] W (SR us m ts q W)))
    (him : (vs.length ≤ 1048576 → l.length ≤ 1048576 → ∀ (A C : Option Addr) (W : World), RdI W W.heap.size A vs → RdI W W.heap.size C l → Calls Try.prog 31 #[.agg #[.slice A vs.length vs.length, .int .i64 k], .slice C l.length l.length] W (SR us m ts q W))) :
    Calls Try.prog 13 #[.agg #[.slice A vs.length c, .int .i64 k], .slice C l.length e0] w fun e w' => e = .returned (.bool true) ∧ Below w.heap.size w w' := by
  unfold maxLen at hml
  by_cases hl : (1048576 : Int) < l.length
  · go_enter Try.func13, Try.ntmps13
    go_wp2
    go_ret
    exact ⟨rfl, up_ (Below.refl _ _) _⟩
  have hl' : l.length ≤ 1048576 := by omega
  clear hl hml
  by_cases hn : (1048576 : Int) < vs.length
  · go_enter Try.func13, Try.ntmps13
    go_wp2_with fail
    refine (szStore_big A vs.length c k _ _ hm (by omega) (by omega) hn).mono ?_
    rintro e w1 ⟨rfl, hb1⟩
    go_wp2
    go_ret
    exact ⟨rfl, on_ (up_ (Below.refl _ _) _) hb1⟩
  have hn' : vs.length ≤ 1048576 := by omega
  have HSP := Lib.hid (hsp hn' hl'); clear hsp
  have HIM := Lib.hid (him hn' hl'); clear him
  have hnq : (q != q) = false := by simp
  have hkm := Blk.new w 62 #[.slice A vs.length c, .int .i64 k]
  have hr0 := hr.up (.cells #[.slice A vs.length c, .int .i64 k] 62)
  have hq0 := hq.up (.cells #[.slice A vs.length c, .int .i64 k] 62)
  have HR0 := Lib.hid hr
  have HQ0 := Lib.hid hq
  have hsz0 := szStore_small A vs.length c k 1048576 (w.alloc (.cells #[.slice A vs.length c, .int .i64 k] 62)) hm (by omega) (by omega) (by omega)
  have HSZ := Lib.hid hsz0; clear hsz0 hr hq hm hn
  go_enter Try.func13, Try.ntmps13
  go_wp2_with fail
  refine HSZ.out.mono ?_
  rintro e w1 ⟨rfl, hb1⟩
  have km1 := hkm.on hb1
  have or1 := RdI.on hr0 hb1
  have oq1 := RdI.on hq0 hb1
  have hB1 := on_ (up_ (Below.refl w.heap.size w) _) hb1
  clear hkm hr0 hq0 hb1 HSZ
  have rm1 := km1.rule
  have zm1 := km1.lt
  have hlm1 : w.heap.size < w1.heap.size := zm1
  go_wp2_with fail
  refine (toStore_any A c vs k _ or1 hn').mono ?_
  rintro e w2 ⟨g2, cs2, rfl, hg2, hq2, hp2, hb2⟩
  have km2 : Blk w2 _ _ _ := Blk.on km1 hb2
  have or2 := RdI.on or1 hb2
  have oq2 := RdI.on oq1 hb2
  have hB2 := on_ hB1 hb2
  clear rm1 zm1
  clear km1 or1 oq1 hB1
  have oy2 := hp2.rd hq2 hq2.lt
  have hsz2 := hb2.size
  clear hb2
  have rm2 := km2.rule
  have zm2 := km2.lt
  clear hp2 hq2 hg2 cs2
  go_wp2_with fail
  refine (toIntS_any C e0 l _ oq2 hl').mono ?_
  rintro e w3 ⟨g3, cs3, rfl, hg3, hq3, hp3, hb3⟩
  have km3 : Blk w3 _ _ _ := Blk.on km2 hb3
  have or3 := RdI.on or2 hb3
  have oq3 := RdI.on oq2 hb3
  have oy3 := RdI.on oy2 hb3
  have hB3 := on_ hB2 hb3
  clear rm2 zm2
  clear km2 or2 oq2 oy2 hB2
  have oz3 := hp3.rd hq3 hq3.lt
  have hsz3 := hb3.size
  clear hb3
  have rm3 := km3.rule
  have zm3 := km3.lt
  clear hp3 hq3 hg3 cs3
  go_wp2_with fail
  refine (HSP.out _ _ _ (by exact oy3) (by exact oz3)).mono ?_
  rintro e w4 ⟨B4, d4, D4, f4, rfl, how4, hot4, hdi4, hb4⟩
  have km4 : Blk w4 _ _ _ := Blk.on km3 hb4
  have or4 := RdI.on or3 hb4
  have oq4 := RdI.on oq3 hb4
  have oy4 := RdI.on oy3 hb4
  have oz4 := RdI.on oz3 hb4
  have hB4 := on_ hB3 hb4
  clear rm3 zm3
  clear km3 or3 oq3 oy3 oz3 hB3
  have ow4 := how4
  have ot4 := hot4
  have hsz4 := hb4.size
  clear hb4
  have rm4 := km4.rule
  have zm4 := km4.lt
  have hlw := ow4.lt
  have hlt := ot4.lt
  clear how4 hot4 hdi4
  clear oy4 oz4
  have ks5 := Blk.new w4 36 #[.slice B4 us.length d4, .int .i64 m]
  have km5 := Blk.alloc km4 (.cells #[.slice B4 us.length d4, .int .i64 m] 36)
  have or5 := RdI.up or4 (.cells #[.slice B4 us.length d4, .int .i64 m] 36)
  have oq5 := RdI.up oq4 (.cells #[.slice B4 us.length d4, .int .i64 m] 36)
  have ow5 := OI.up ow4 (.cells #[.slice B4 us.length d4, .int .i64 m] 36)
  have ot5 := OI.up ot4 (.cells #[.slice B4 us.length d4, .int .i64 m] 36)
  have hB5 := up_ hB4 (.cells #[.slice B4 us.length d4, .int .i64 m] 36)
  have hsz5 : (w4.alloc (.cells #[.slice B4 us.length d4, .int .i64 m] 36)).heap.size = w4.heap.size + 1 := World.size_alloc _ _
  clear km4 or4 oq4 ow4 ot4 hB4
  clear rm4 zm4
  have rrm := km5.rule
  go_wp2_with fail
  generalize w4.alloc (.cells #[.slice B4 us.length d4, .int .i64 m] 36) = w5 at *
  clear rrm
  have rm5 := km5.rule
  have zm5 := km5.lt
  have rs5 := ks5.rule
  have zs5 := ks5.lt
  have hls5 : w4.heap.size < w5.heap.size := zs5
  clear hsz5
  refine (toStore_any A c vs k _ or5 hn').mono ?_
  rintro e w6 ⟨g6, cs6, rfl, hg6, hq6, hp6, hb6⟩
  have km6 : Blk w6 _ _ _ := Blk.on km5 hb6
  have ks6 : Blk w6 _ _ _ := Blk.on ks5 hb6
  have or6 := RdI.on or5 hb6
  have oq6 := RdI.on oq5 hb6
  have ow6 := OI.on ow5 hb6
  have ot6 := OI.on ot5 hb6
  have hB6 := on_ hB5 hb6
  clear rm5 zm5 rs5 zs5
  clear km5 ks5 or5 oq5 ow5 ot5 hB5
  have ox6 := hp6.rd hq6 hq6.lt
  have op6 := hq6
  have hsz6 := hb6.size
  clear hb6
  have rm6 := km6.rule
  have zm6 := km6.lt
  have rs6 := ks6.rule
  have zs6 := ks6.lt
  have hlp6 := op6.lt
  have HPC := Lib.hid (show vs.length ≤ cs6.size by have := hp6.1; omega)
  clear hp6 hq6
  have kx7 := Blk.new w6 36 #[.slice (some ⟨g6, 0, none⟩) vs.length vs.length, .int .i64 k]
  have km7 := Blk.alloc km6 (.cells #[.slice (some ⟨g6, 0, none⟩) vs.length vs.length, .int .i64 k] 36)
  have ks7 := Blk.alloc ks6 (.cells #[.slice (some ⟨g6, 0, none⟩) vs.length vs.length, .int .i64 k] 36)
  have or7 := RdI.up or6 (.cells #[.slice (some ⟨g6, 0, none⟩) vs.length vs.length, .int .i64 k] 36)
  have oq7 := RdI.up oq6 (.cells #[.slice (some ⟨g6, 0, none⟩) vs.length vs.length, .int .i64 k] 36)
  have ow7 := OI.up ow6 (.cells #[.slice (some ⟨g6, 0, none⟩) vs.length vs.length, .int .i64 k] 36)
  have ot7 := OI.up ot6 (.cells #[.slice (some ⟨g6, 0, none⟩) vs.length vs.length, .int .i64 k] 36)
  have ox7 := RdI.up ox6 (.cells #[.slice (some ⟨g6, 0, none⟩) vs.length vs.length, .int .i64 k] 36)
  have op7 := Blk.up op6 (.cells #[.slice (some ⟨g6, 0, none⟩) vs.length vs.length, .int .i64 k] 36)
  have hB7 := up_ hB6 (.cells #[.slice (some ⟨g6, 0, none⟩) vs.length vs.length, .int .i64 k] 36)
  have hsz7 : (w6.alloc (.cells #[.slice (some ⟨g6, 0, none⟩) vs.length vs.length, .int .i64 k] 36)).heap.size = w6.heap.size + 1 := World.size_alloc _ _
  clear km6 ks6 or6 oq6 ow6 ot6 ox6 op6 hB6
  clear rm6 zm6 rs6 zs6
  have rrm := km7.rule
  have rrs := ks7.rule
  go_wp2_with fail
  generalize w6.alloc (.cells #[.slice (some ⟨g6, 0, none⟩) vs.length vs.length, .int .i64 k] 36) = w7 at *
  clear rrm rrs
  have rm7 := km7.rule
  have zm7 := km7.lt
  have rs7 := ks7.rule
  have zs7 := ks7.lt
  have rx7 := kx7.rule
  have zx7 := kx7.lt
  have hlx7 : w6.heap.size < w7.heap.size := zx7
  clear hsz7
  refine (toIntS_any C e0 l _ oq7 hl').mono ?_
  rintro e w8 ⟨g8, cs8, rfl, hg8, hq8, hp8, hb8⟩
  have km8 : Blk w8 _ _ _ := Blk.on km7 hb8
  have ks8 : Blk w8 _ _ _ := Blk.on ks7 hb8
  have kx8 : Blk w8 _ _ _ := Blk.on kx7 hb8
  have or8 := RdI.on or7 hb8
  have oq8 := RdI.on oq7 hb8
  have ow8 := OI.on ow7 hb8
  have ot8 := OI.on ot7 hb8
  have ox8 := RdI.on ox7 hb8
  have op8 := Blk.on op7 hb8
  have hB8 := on_ hB7 hb8
  clear rm7 zm7 rs7 zs7 rx7 zx7
  clear km7 ks7 kx7 or7 oq7 ow7 ot7 ox7 op7 hB7
  have oh8 := hp8.rd hq8 hq8.lt
  have ok8 := hq8
  have hsz8 := hb8.size
  clear hb8
  have rm8 := km8.rule
  have zm8 := km8.lt
  have rs8 := ks8.rule
  have zs8 := ks8.lt
  have rx8 := kx8.rule
  have zx8 := kx8.lt
  have hlk8 := ok8.lt
  have HKC := Lib.hid (show l.length ≤ cs8.size by have := hp8.1; omega)
  clear hp8 hq8
  go_wp2_with fail
  refine (HIM.out _ _ _ (by exact ox8) (by exact oh8)).mono ?_
  rintro e w9 ⟨B9, d9, D9, f9, rfl, hog9, hou9, hdi9, hb9⟩
  have km9 : Blk w9 _ _ _ := Blk.on km8 hb9
  have ks9 : Blk w9 _ _ _ := Blk.on ks8 hb9
  have kx9 : Blk w9 _ _ _ := Blk.on kx8 hb9
  have or9 := RdI.on or8 hb9
  have oq9 := RdI.on oq8 hb9
  have ow9 := OI.on ow8 hb9
  have ot9 := OI.on ot8 hb9
  have ox9 := RdI.on ox8 hb9
  have op9 := Blk.on op8 hb9
  have oh9 := RdI.on oh8 hb9
  have ok9 := Blk.on ok8 hb9
  have hB9 := on_ hB8 hb9
  clear rm8 zm8 rs8 zs8 rx8 zx8
  clear km8 ks8 kx8 or8 oq8 ow8 ot8 ox8 op8 oh8 ok8 hB8
  have og9 := hog9
  have ou9 := hou9
  have hsz9 := hb9.size
  clear hb9
  have rm9 := km9.rule
  have zm9 := km9.lt
  have rs9 := ks9.rule
  have zs9 := ks9.lt
  have rx9 := kx9.rule
  have zx9 := kx9.lt
  have hlg := og9.lt
  have hlu := ou9.lt
  have hgg := og9.ge
  have hgu := ou9.ge
  clear hog9 hou9
  have kg10 := Blk.new w9 36 #[.slice B9 us.length d9, .int .i64 m]
  have km10 := Blk.alloc km9 (.cells #[.slice B9 us.length d9, .int .i64 m] 36)
  have ks10 := Blk.alloc ks9 (.cells #[.slice B9 us.length d9, .int .i64 m] 36)
  have kx10 := Blk.alloc kx9 (.cells #[.slice B9 us.length d9, .int .i64 m] 36)
  have or10 := RdI.up or9 (.cells #[.slice B9 us.length d9, .int .i64 m] 36)
  have oq10 := RdI.up oq9 (.cells #[.slice B9 us.length d9, .int .i64 m] 36)
  have ow10 := OI.up ow9 (.cells #[.slice B9 us.length d9, .int .i64 m] 36)
  have ot10 := OI.up ot9 (.cells #[.slice B9 us.length d9, .int .i64 m] 36)
  have ox10 := RdI.up ox9 (.cells #[.slice B9 us.length d9, .int .i64 m] 36)
  have op10 := Blk.up op9 (.cells #[.slice B9 us.length d9, .int .i64 m] 36)
  have oh10 := RdI.up oh9 (.cells #[.slice B9 us.length d9, .int .i64 m] 36)
  have ok10 := Blk.up ok9 (.cells #[.slice B9 us.length d9, .int .i64 m] 36)
  have og10 := OI.up og9 (.cells #[.slice B9 us.length d9, .int .i64 m] 36)
  have ou10 := OI.up ou9 (.cells #[.slice B9 us.length d9, .int .i64 m] 36)
  have hB10 := up_ hB9 (.cells #[.slice B9 us.length d9, .int .i64 m] 36)
  have hsz10 : (w9.alloc (.cells #[.slice B9 us.length d9, .int .i64 m] 36)).heap.size = w9.heap.size + 1 := World.size_alloc _ _
  clear km9 ks9 kx9 or9 oq9 ow9 ot9 ox9 op9 oh9 ok9 og9 ou9 hB9
  clear rm9 zm9 rs9 zs9 rx9 zx9
  have rrm := km10.rule
  have rrs := ks10.rule
  have rrx := kx10.rule
  go_wp2_with fail
  generalize w9.alloc (.cells #[.slice B9 us.length d9, .int .i64 m] 36) = w10 at *
  clear rrm rrs rrx
  have rm10 := km10.rule
  have zm10 := km10.lt
  have rs10 := ks10.rule
  have zs10 := ks10.lt
  have rx10 := kx10.rule
  have zx10 := kx10.lt
  have rg10 := kg10.rule
  have zg10 := kg10.lt
  have hlg10 : w9.heap.size < w10.heap.size := zg10
  clear hsz10
  refine (eqStore_same _ _ _ _ us m _ (by exact og10.rd) (by exact ow10.rd) hul).mono ?_
  rintro e w11 ⟨rfl, hb11⟩
  have km11 : Blk w11 _ _ _ := Blk.on km10 hb11
  have ks11 : Blk w11 _ _ _ := Blk.on ks10 hb11
  have kx11 : Blk w11 _ _ _ := Blk.on kx10 hb11
  have kg11 : Blk w11 _ _ _ := Blk.on kg10 hb11
  have or11 := RdI.on or10 hb11
  have oq11 := RdI.on oq10 hb11
  have ow11 := OI.on ow10 hb11
  have ot11 := OI.on ot10 hb11
  have ox11 := RdI.on ox10 hb11
  have op11 := Blk.on op10 hb11
  have oh11 := RdI.on oh10 hb11
  have ok11 := Blk.on ok10 hb11
  have og11 := OI.on og10 hb11
  have ou11 := OI.on ou10 hb11
  have hB11 := on_ hB10 hb11
  clear rm10 zm10 rs10 zs10 rx10 zx10 rg10 zg10
  clear km10 ks10 kx10 kg10 or10 oq10 ow10 ot10 ox10 op10 oh10 ok10 og10 ou10 hB10
  have hsz11 := hb11.size
  clear hb11
  have rm11 := km11.rule
  have zm11 := km11.lt
  have rs11 := ks11.rule
  have zs11 := ks11.lt
  have rx11 := kx11.rule
  have zx11 := kx11.lt
  have rg11 := kg11.rule
  have zg11 := kg11.lt
  go_wp2_with fail
  refine (eqIntS_same _ _ _ _ ts _ (by exact ou11.rd) (by exact ot11.rd) (by omega)).mono ?_
  rintro e w12 ⟨rfl, hb12⟩
  have km12 : Blk w12 _ _ _ := Blk.on km11 hb12
  have ks12 : Blk w12 _ _ _ := Blk.on ks11 hb12
  have kx12 : Blk w12 _ _ _ := Blk.on kx11 hb12
  have kg12 : Blk w12 _ _ _ := Blk.on kg11 hb12
  have or12 := RdI.on or11 hb12
  have oq12 := RdI.on oq11 hb12
  have ow12 := OI.on ow11 hb12
  have ot12 := OI.on ot11 hb12
  have ox12 := RdI.on ox11 hb12
  have op12 := Blk.on op11 hb12
  have oh12 := RdI.on oh11 hb12
  have ok12 := Blk.on ok11 hb12
  have og12 := OI.on og11 hb12
  have ou12 := OI.on ou11 hb12
  have hB12 := on_ hB11 hb12
  clear rm11 zm11 rs11 zs11 rx11 zx11 rg11 zg11
  clear km11 ks11 kx11 kg11 or11 oq11 ow11 ot11 ox11 op11 oh11 ok11 og11 ou11 hB11
  have hsz12 := hb12.size
  clear hb12
  have rm12 := km12.rule
  have zm12 := km12.lt
  have rs12 := ks12.rule
  have zs12 := ks12.lt
  have rx12 := kx12.rule
  have zx12 := kx12.lt
  have rg12 := kg12.rule
  have zg12 := kg12.lt
  go_wp2
  go_region_held3 (fun w' => (∀ i, w'.cell? ⟨w6.heap.size, i, none⟩ = (#[.slice (some ⟨g6, 0, none⟩) vs.length vs.length, .int .i64 k] : Array Value)[i]?) ∧ (∀ i, w'.cell? ⟨w.heap.size, i, none⟩ = (#[.slice A vs.length c, .int .i64 k] : Array Value)[i]?))
    (first | exact ⟨kx14.rule, km14.rule⟩ | exact ⟨kx13.rule, km13.rule⟩ | exact ⟨rx12, rm12⟩)
    (first
      | (go_at_call 45; refine (toStore_any A c vs k _ (by exact or12) hn').mono ?_; rintro e w13 ⟨g13, cs13, rfl, hg13, hq13, hp13, hb13⟩; have km13 : Blk w13 _ _ _ := Blk.on (w := w12.drew) km12 hb13; have ks13 : Blk w13 _ _ _ := Blk.on (w := w12.drew) ks12 hb13; have kx13 : Blk w13 _ _ _ := Blk.on (w := w12.drew) kx12 hb13; have kg13 : Blk w13 _ _ _ := Blk.on (w := w12.drew) kg12 hb13; have or13 := RdI.on (w := w12.drew) or12 hb13; have oq13 := RdI.on (w := w12.drew) oq12 hb13; have ow13 := OI.on (w := w12.drew) ow12 hb13; have ot13 := OI.on (w := w12.drew) ot12 hb13; have ox13 := RdI.on (w := w12.drew) ox12 hb13; have op13 := Blk.on (w := w12.drew) op12 hb13; have oh13 := RdI.on (w := w12.drew) oh12 hb13; have ok13 := Blk.on (w := w12.drew) ok12 hb13; have og13 := OI.on (w := w12.drew) og12 hb13; have ou13 := OI.on (w := w12.drew) ou12 hb13; have hB13 := on_ (hB12).drew hb13; have on13 := hp13.rd hq13 hq13.lt)
      | (go_at_call 41; refine (eqStore_same _ _ _ _ vs k _ (by exact ox13) (by exact on13) hn').mono ?_; rintro e w14 ⟨rfl, hb14⟩; have km14 : Blk w14 _ _ _ := Blk.on km13 hb14; have ks14 : Blk w14 _ _ _ := Blk.on ks13 hb14; have kx14 : Blk w14 _ _ _ := Blk.on kx13 hb14; have kg14 : Blk w14 _ _ _ := Blk.on kg13 hb14; have or14 := RdI.on or13 hb14; have oq14 := RdI.on oq13 hb14; have ow14 := OI.on ow13 hb14; have ot14 := OI.on ot13 hb14; have ox14 := RdI.on ox13 hb14; have op14 := Blk.on op13 hb14; have oh14 := RdI.on oh13 hb14; have ok14 := Blk.on ok13 hb14; have og14 := OI.on og13 hb14; have ou14 := OI.on ou13 hb14; have on14 := RdI.on on13 hb14; have hB14 := on_ hB13 hb14))
  have hsz14 : w12.heap.size ≤ w14.heap.size := Nat.le_trans (show w12.heap.size ≤ w13.heap.size from hb13.size) hb14.size
  clear rm12 zm12 rs12 zs12 rx12 zx12 rg12 zg12
  clear km12 ks12 kx12 kg12 or12 oq12 ow12 ot12 ox12 op12 oh12 ok12 og12 ou12 hB12 km13 ks13 kx13 kg13 or13 oq13 ow13 ot13 ox13 op13 oh13 ok13 og13 ou13 on13 hB13 hb13 hb14
  have rm14 := km14.rule
  have zm14 := km14.lt
  have rs14 := ks14.rule
  have zs14 := ks14.lt
  have rx14 := kx14.rule
  have zx14 := kx14.lt
  have rg14 := kg14.rule
  have zg14 := kg14.lt
  clear on14 ox14
  go_wp2_with fail
  refine (toIntS_any C e0 l _ oq14 hl').mono ?_
  rintro e w15 ⟨g15, cs15, rfl, hg15, hq15, hp15, hb15⟩
  have km15 : Blk w15 _ _ _ := Blk.on km14 hb15
  have ks15 : Blk w15 _ _ _ := Blk.on ks14 hb15
  have kx15 : Blk w15 _ _ _ := Blk.on kx14 hb15
  have kg15 : Blk w15 _ _ _ := Blk.on kg14 hb15
  have or15 := RdI.on or14 hb15
  have oq15 := RdI.on oq14 hb15
  have ow15 := OI.on ow14 hb15
  have ot15 := OI.on ot14 hb15
  have op15 := Blk.on op14 hb15
  have oh15 := RdI.on oh14 hb15
  have ok15 := Blk.on ok14 hb15
  have og15 := OI.on og14 hb15
  have ou15 := OI.on ou14 hb15
  have hB15 := on_ hB14 hb15
  clear rm14 zm14 rs14 zs14 rx14 zx14 rg14 zg14
  clear km14 ks14 kx14 kg14 or14 oq14 ow14 ot14 op14 oh14 ok14 og14 ou14 hB14
  have on15 := hp15.rd hq15 hq15.lt
  have hsz15 := hb15.size
  clear hb15
  have rm15 := km15.rule
  have zm15 := km15.lt
  have rs15 := ks15.rule
  have zs15 := ks15.lt
  have rx15 := kx15.rule
  have zx15 := kx15.lt
  have rg15 := kg15.rule
  have zg15 := kg15.lt
  clear hp15 hq15 hg15 cs15
  go_wp2_with fail
  refine (eqIntS_same _ _ _ _ l _ (by exact oh15) (by exact on15) (by omega)).mono ?_
  rintro e w16 ⟨rfl, hb16⟩
  have km16 : Blk w16 _ _ _ := Blk.on km15 hb16
  have ks16 : Blk w16 _ _ _ := Blk.on ks15 hb16
  have kx16 : Blk w16 _ _ _ := Blk.on kx15 hb16
  have kg16 : Blk w16 _ _ _ := Blk.on kg15 hb16
  have or16 := RdI.on or15 hb16
  have oq16 := RdI.on oq15 hb16
  have ow16 := OI.on ow15 hb16
  have ot16 := OI.on ot15 hb16
  have op16 := Blk.on op15 hb16
  have oh16 := RdI.on oh15 hb16
  have ok16 := Blk.on ok15 hb16
  have og16 := OI.on og15 hb16
  have ou16 := OI.on ou15 hb16
  have on16 := RdI.on on15 hb16
  have hB16 := on_ hB15 hb16
  clear rm15 zm15 rs15 zs15 rx15 zx15 rg15 zg15
  clear km15 ks15 kx15 kg15 or15 oq15 ow15 ot15 op15 oh15 ok15 og15 ou15 on15 hB15
  have hsz16 := hb16.size
  clear hb16
  have rm16 := km16.rule
  have zm16 := km16.lt
  have rs16 := ks16.rule
  have zs16 := ks16.lt
  have rx16 := kx16.rule
  have zx16 := kx16.lt
  have rg16 := kg16.rule
  have zg16 := kg16.lt
  clear on16 oh16
  go_wp2_with fail
  refine (markStore_any 1 g6 vs.length vs.length _ cs6 _ _ op16 HPC.out hn' (by omega) (by omega)).mono ?_
  rintro e w17 ⟨rfl, ds17, hd17, hsd17, hmk17, hgr17⟩
  have km17 := keep_ km16 hgr17 (by simp; omega)
  have ks17 := keep_ ks16 hgr17 (by simp; omega)
  have kx17 := keep_ kx16 hgr17 (by simp; omega)
  have kg17 := keep_ kg16 hgr17 (by simp; omega)
  have ow17 := OI.keep ow16 hgr17 (fun g' e' => by have := hlw g' e'; simp; omega)
  have ot17 := OI.keep ot16 hgr17 (fun g' e' => by have := hlt g' e'; simp; omega)
  have og17 := OI.keep og16 hgr17 (fun g' e' => by have := hgg g' e'; simp; omega)
  have ou17 := OI.keep ou16 hgr17 (fun g' e' => by have := hgu g' e'; simp; omega)
  have ok17 := keep_ ok16 hgr17 (by simp; omega)
  have hB17 := hB16.trans (keepB hgr17 (fun g e => by injection e with e; omega) hB16.size)
  have or17 : RdI w17 w17.heap.size A vs := (HR0.out.below hB17).more hB17.size
  have oq17 : RdI w17 w17.heap.size C l := (HQ0.out.below hB17).more hB17.size
  have hsz17 := hgr17.size
  clear rm16 zm16 rs16 zs16 rx16 zx16 rg16 zg16
  clear km16 ks16 kx16 kg16 or16 oq16 ow16 ot16 op16 ok16 og16 ou16 hB16
  have rm17 := km17.rule
  have zm17 := km17.lt
  have rs17 := ks17.rule
  have zs17 := ks17.lt
  have rx17 := kx17.rule
  have zx17 := kx17.lt
  have rg17 := kg17.rule
  have zg17 := kg17.lt
  clear hd17 hsd17 hmk17 hgr17
  go_wp2_with fail
  refine (markI_any g8 l.length l.length _ cs8 (1 + vs.length) _ ok17 HKC.out (by omega) (by omega) (by omega)).mono ?_
  rintro e w18 ⟨rfl, ds18, hd18, hsd18, hmk18, hgr18⟩
  have km18 := keep_ km17 hgr18 (by simp; omega)
  have ks18 := keep_ ks17 hgr18 (by simp; omega)
  have kx18 := keep_ kx17 hgr18 (by simp; omega)
  have kg18 := keep_ kg17 hgr18 (by simp; omega)
  have ow18 := OI.keep ow17 hgr18 (fun g' e' => by have := hlw g' e'; simp; omega)
  have ot18 := OI.keep ot17 hgr18 (fun g' e' => by have := hlt g' e'; simp; omega)
  have og18 := OI.keep og17 hgr18 (fun g' e' => by have := hgg g' e'; simp; omega)
  have ou18 := OI.keep ou17 hgr18 (fun g' e' => by have := hgu g' e'; simp; omega)
  have hB18 := hB17.trans (keepB hgr18 (fun g e => by injection e with e; omega) hB17.size)
  have or18 : RdI w18 w18.heap.size A vs := (HR0.out.below hB18).more hB18.size
  have oq18 : RdI w18 w18.heap.size C l := (HQ0.out.below hB18).more hB18.size
  have hsz18 := hgr18.size
  clear rm17 zm17 rs17 zs17 rx17 zx17 rg17 zg17
  clear km17 ks17 kx17 kg17 or17 oq17 ow17 ot17 og17 ou17 ok17 hB17
  have rm18 := km18.rule
  have zm18 := km18.lt
  have rs18 := ks18.rule
  have zs18 := ks18.lt
  have rx18 := kx18.rule
  have zx18 := kx18.lt
  have rg18 := kg18.rule
  have zg18 := kg18.lt
  clear hd18 hsd18 hmk18 hgr18
  go_wp2_with fail
  refine (eqStore_same _ _ _ _ us m _ (by exact og18.rd) (by exact ow18.rd) hul).mono ?_
  rintro e w19 ⟨rfl, hb19⟩
  have km19 : Blk w19 _ _ _ := Blk.on km18 hb19
  have ks19 : Blk w19 _ _ _ := Blk.on ks18 hb19
  have kx19 : Blk w19 _ _ _ := Blk.on kx18 hb19
  have kg19 : Blk w19 _ _ _ := Blk.on kg18 hb19
  have or19 := RdI.on or18 hb19
  have oq19 := RdI.on oq18 hb19
  have ow19 := OI.on ow18 hb19
  have ot19 := OI.on ot18 hb19
  have og19 := OI.on og18 hb19
  have ou19 := OI.on ou18 hb19
  have hB19 := on_ hB18 hb19
  clear rm18 zm18 rs18 zs18 rx18 zx18 rg18 zg18
  clear km18 ks18 kx18 kg18 or18 oq18 ow18 ot18 og18 ou18 hB18
  have hsz19 := hb19.size
  clear hb19
  have rm19 := km19.rule
  have zm19 := km19.lt
  have rs19 := ks19.rule
  have zs19 := ks19.lt
  have rx19 := kx19.rule
  have zx19 := kx19.lt
  have rg19 := kg19.rule
  have zg19 := kg19.lt
  go_wp2_with fail
  refine (eqIntS_same _ _ _ _ ts _ (by exact ou19.rd) (by exact ot19.rd) (by omega)).mono ?_
  rintro e w20 ⟨rfl, hb20⟩
  have km20 : Blk w20 _ _ _ := Blk.on km19 hb20
  have ks20 : Blk w20 _ _ _ := Blk.on ks19 hb20
  have kx20 : Blk w20 _ _ _ := Blk.on kx19 hb20
  have kg20 : Blk w20 _ _ _ := Blk.on kg19 hb20
  have or20 := RdI.on or19 hb20
  have oq20 := RdI.on oq19 hb20
  have ow20 := OI.on ow19 hb20
  have ot20 := OI.on ot19 hb20
  have og20 := OI.on og19 hb20
  have ou20 := OI.on ou19 hb20
  have hB20 := on_ hB19 hb20
  clear rm19 zm19 rs19 zs19 rx19 zx19 rg19 zg19
  clear km19 ks19 kx19 kg19 or19 oq19 ow19 ot19 og19 ou19 hB19
  have hsz20 := hb20.size
  clear hb20
  have rm20 := km20.rule
  have zm20 := km20.lt
  have rs20 := ks20.rule
  have zs20 := ks20.lt
  have rx20 := kx20.rule
  have zx20 := kx20.lt
  have rg20 := kg20.rule
  have zg20 := kg20.lt
  go_wp2_with fail
  refine (markStore_grow 1 B9 d9 _ _ us _ _ og20 hul (by omega) (by omega)).mono ?_
  rintro e w21 ⟨rfl, og21, row21, hrow21, hgr21⟩
  have km21 := keep_ km20 hgr21 (fun e => by have := hgg _ (hrow21 _ e); omega)
  have ks21 := keep_ ks20 hgr21 (fun e => by have := hgg _ (hrow21 _ e); omega)
  have kg21 := keep_ kg20 hgr21 (fun e => by have := hlg _ (hrow21 _ e); omega)
  have ow21 := OI.keep ow20 hgr21 (fun g' e' e => by have := hlw g' e'; have := hgg _ (hrow21 _ e); omega)
  have ot21 := OI.keep ot20 hgr21 (fun g' e' e => by have := hlt g' e'; have := hgg _ (hrow21 _ e); omega)
  have ou21 := OI.keep ou20 hgr21 (fun g' e' e => hdi9 g' (hrow21 _ e) e')
  have hB21 := hB20.trans (keepB hgr21 (fun g e => by have := hgg _ (hrow21 _ e); omega) hB20.size)
  have or21 : RdI w21 w21.heap.size A vs := (HR0.out.below hB21).more hB21.size
  have oq21 : RdI w21 w21.heap.size C l := (HQ0.out.below hB21).more hB21.size
  have hsz21 := hgr21.size
  clear rm20 zm20 rs20 zs20 rx20 zx20 rg20 zg20
  clear km20 ks20 kx20 kg20 or20 oq20 ow20 ot20 og20 ou20 hB20
  have rm21 := km21.rule
  have zm21 := km21.lt
  have rs21 := ks21.rule
  have zs21 := ks21.lt
  have rg21 := kg21.rule
  have zg21 := kg21.lt
  clear hgr21 hrow21
  go_wp2_with fail
  refine (markI_grow (1 + us.length) D9 f9 _ _ ts _ ou21 htl (by omega) (by omega)).mono ?_
  rintro e w22 ⟨rfl, ou22, row22, hrow22, hgr22⟩
  have km22 := keep_ km21 hgr22 (fun e => by have := hgu _ (hrow22 _ e); omega)
  have ks22 := keep_ ks21 hgr22 (fun e => by have := hgu _ (hrow22 _ e); omega)
  have kg22 := keep_ kg21 hgr22 (fun e => by have := hlu _ (hrow22 _ e); omega)
  have ow22 := OI.keep ow21 hgr22 (fun g' e' e => by have := hlw g' e'; have := hgu _ (hrow22 _ e); omega)
  have ot22 := OI.keep ot21 hgr22 (fun g' e' e => by have := hlt g' e'; have := hgu _ (hrow22 _ e); omega)
  have og22 := MI.keep og21 hgr22 (fun g' e' e => hdi9 g' e' (hrow22 _ e))
  have hB22 := hB21.trans (keepB hgr22 (fun g e => by have := hgu _ (hrow22 _ e); omega) hB21.size)
  have or22 : RdI w22 w22.heap.size A vs := (HR0.out.below hB22).more hB22.size
  have oq22 : RdI w22 w22.heap.size C l := (HQ0.out.below hB22).more hB22.size
  have hsz22 := hgr22.size
  clear rm21 zm21 rs21 zs21 rg21 zg21
  clear km21 ks21 kg21 or21 oq21 ow21 ot21 ou21 og21 hB21
  have rm22 := km22.rule
  have zm22 := km22.lt
  have rs22 := ks22.rule
  have zs22 := ks22.lt
  have rg22 := kg22.rule
  have zg22 := kg22.lt
  clear hgr22 hrow22
  go_wp2_with fail
  refine (heldStore_own 1 B9 d9 _ _ us.length _ _ og22 hul (by omega) (by omega)).mono ?_
  rintro e w23 ⟨rfl, hb23⟩
  have km23 : Blk w23 _ _ _ := Blk.on km22 hb23
  have ks23 : Blk w23 _ _ _ := Blk.on ks22 hb23
  have kg23 : Blk w23 _ _ _ := Blk.on kg22 hb23
  have or23 := RdI.on or22 hb23
  have oq23 := RdI.on oq22 hb23
  have ow23 := OI.on ow22 hb23
  have ot23 := OI.on ot22 hb23
  have og23 := MI.on og22 hb23
  have ou23 := MI.on ou22 hb23
  have hB23 := on_ hB22 hb23
  clear rm22 zm22 rs22 zs22 rg22 zg22
  clear km22 ks22 kg22 or22 oq22 ow22 ot22 og22 ou22 hB22
  have hsz23 := hb23.size
  clear hb23
  have rm23 := km23.rule
  have zm23 := km23.lt
  have rs23 := ks23.rule
  have zs23 := ks23.lt
  have rg23 := kg23.rule
  have zg23 := kg23.lt
  go_wp2_with fail
  refine (heldI_own D9 f9 _ _ ts.length (1 + us.length) _ ou23 (by omega) (by omega) (by omega)).mono ?_
  rintro e w99 ⟨rfl, h99⟩; obtain rfl := h99
  have hne : ((1 + (us.length : Int) + (ts.length : Int)) != (1 + (us.length : Int) + (ts.length : Int))) = false := by simp
  go_wp2_with fail
  refine (toStore_any A c vs k _ or23 hn').mono ?_
  rintro e w24 ⟨g24, cs24, rfl, hg24, hq24, hp24, hb24⟩
  have km24 : Blk w24 _ _ _ := Blk.on km23 hb24
  have ks24 : Blk w24 _ _ _ := Blk.on ks23 hb24
  have kg24 : Blk w24 _ _ _ := Blk.on kg23 hb24
  have or24 := RdI.on or23 hb24
  have oq24 := RdI.on oq23 hb24
  have ow24 := OI.on ow23 hb24
  have ot24 := OI.on ot23 hb24
  have og24 := MI.on og23 hb24
  have ou24 := MI.on ou23 hb24
  have hB24 := on_ hB23 hb24
  clear rm23 zm23 rs23 zs23 rg23 zg23
  clear km23 ks23 kg23 or23 oq23 ow23 ot23 og23 ou23 hB23
  have oy24 := hp24.rd hq24 hq24.lt
  have hsz24 := hb24.size
  clear hb24
  have rm24 := km24.rule
  have zm24 := km24.lt
  have rs24 := ks24.rule
  have zs24 := ks24.lt
  have rg24 := kg24.rule
  have zg24 := kg24.lt
  clear hp24 hq24 hg24 cs24
  go_wp2_with fail
  refine (toIntS_any C e0 l _ oq24 hl').mono ?_
  rintro e w25 ⟨g25, cs25, rfl, hg25, hq25, hp25, hb25⟩
  have km25 : Blk w25 _ _ _ := Blk.on km24 hb25
  have ks25 : Blk w25 _ _ _ := Blk.on ks24 hb25
  have kg25 : Blk w25 _ _ _ := Blk.on kg24 hb25
  have or25 := RdI.on or24 hb25
  have oq25 := RdI.on oq24 hb25
  have ow25 := OI.on ow24 hb25
  have ot25 := OI.on ot24 hb25
  have og25 := MI.on og24 hb25
  have ou25 := MI.on ou24 hb25
  have oy25 := RdI.on oy24 hb25
  have hB25 := on_ hB24 hb25
  clear rm24 zm24 rs24 zs24 rg24 zg24
  clear km24 ks24 kg24 or24 oq24 ow24 ot24 og24 ou24 oy24 hB24
  have oz25 := hp25.rd hq25 hq25.lt
  have hsz25 := hb25.size
  clear hb25
  have rm25 := km25.rule
  have zm25 := km25.lt
  have rs25 := ks25.rule
  have zs25 := ks25.lt
  have rg25 := kg25.rule
  have zg25 := kg25.lt
  clear hp25 hq25 hg25 cs25
  go_wp2_with fail
  refine (HIM.out _ _ _ (by exact oy25) (by exact oz25)).mono ?_
  rintro e w26 ⟨B26, d26, D26, f26, rfl, hoa26, hob26, hdi26, hb26⟩
  have km26 : Blk w26 _ _ _ := Blk.on km25 hb26
  have ks26 : Blk w26 _ _ _ := Blk.on ks25 hb26
  have kg26 : Blk w26 _ _ _ := Blk.on kg25 hb26
  have or26 := RdI.on or25 hb26
  have oq26 := RdI.on oq25 hb26
  have ow26 := OI.on ow25 hb26
  have ot26 := OI.on ot25 hb26
  have og26 := MI.on og25 hb26
  have ou26 := MI.on ou25 hb26
  have oy26 := RdI.on oy25 hb26
  have oz26 := RdI.on oz25 hb26
  have hB26 := on_ hB25 hb26
  clear rm25 zm25 rs25 zs25 rg25 zg25
  clear km25 ks25 kg25 or25 oq25 ow25 ot25 og25 ou25 oy25 oz25 hB25
  have oa26 := hoa26
  have ob26 := hob26
  have hsz26 := hb26.size
  clear hb26
  have rm26 := km26.rule
  have zm26 := km26.lt
  have rs26 := ks26.rule
  have zs26 := ks26.lt
  have rg26 := kg26.rule
  have zg26 := kg26.lt
  clear hoa26 hob26 hdi26
  clear oy26 oz26
  have ku27 := Blk.new w26 36 #[.slice B26 us.length d26, .int .i64 m]
  have km27 := Blk.alloc km26 (.cells #[.slice B26 us.length d26, .int .i64 m] 36)
  have ks27 := Blk.alloc ks26 (.cells #[.slice B26 us.length d26, .int .i64 m] 36)
  have kg27 := Blk.alloc kg26 (.cells #[.slice B26 us.length d26, .int .i64 m] 36)
  have or27 := RdI.up or26 (.cells #[.slice B26 us.length d26, .int .i64 m] 36)
  have oq27 := RdI.up oq26 (.cells #[.slice B26 us.length d26, .int .i64 m] 36)
  have ow27 := OI.up ow26 (.cells #[.slice B26 us.length d26, .int .i64 m] 36)
  have ot27 := OI.up ot26 (.cells #[.slice B26 us.length d26, .int .i64 m] 36)
  have og27 := MI.up og26 (.cells #[.slice B26 us.length d26, .int .i64 m] 36)
  have ou27 := MI.up ou26 (.cells #[.slice B26 us.length d26, .int .i64 m] 36)
  have oa27 := OI.up oa26 (.cells #[.slice B26 us.length d26, .int .i64 m] 36)
  have ob27 := OI.up ob26 (.cells #[.slice B26 us.length d26, .int .i64 m] 36)
  have hB27 := up_ hB26 (.cells #[.slice B26 us.length d26, .int .i64 m] 36)
  have hsz27 : (w26.alloc (.cells #[.slice B26 us.length d26, .int .i64 m] 36)).heap.size = w26.heap.size + 1 := World.size_alloc _ _
  clear km26 ks26 kg26 or26 oq26 ow26 ot26 og26 ou26 oa26 ob26 hB26
  clear rm26 zm26 rs26 zs26 rg26 zg26
  have rrm := km27.rule
  have rrs := ks27.rule
  have rrg := kg27.rule
  go_wp2_with fail
  generalize w26.alloc (.cells #[.slice B26 us.length d26, .int .i64 m] 36) = w27 at *
  clear rrm rrs rrg
  have rm27 := km27.rule
  have zm27 := km27.lt
  have rs27 := ks27.rule
  have zs27 := ks27.lt
  have rg27 := kg27.rule
  have zg27 := kg27.lt
  have ru27 := ku27.rule
  have zu27 := ku27.lt
  clear hsz27
  refine (eqStore_same _ _ _ _ us m _ (by exact oa27.rd) (by exact ow27.rd) hul).mono ?_
  rintro e w28 ⟨rfl, hb28⟩
  have km28 : Blk w28 _ _ _ := Blk.on km27 hb28
  have ks28 : Blk w28 _ _ _ := Blk.on ks27 hb28
  have kg28 : Blk w28 _ _ _ := Blk.on kg27 hb28
  have ku28 : Blk w28 _ _ _ := Blk.on ku27 hb28
  have or28 := RdI.on or27 hb28
  have oq28 := RdI.on oq27 hb28
  have ow28 := OI.on ow27 hb28
  have ot28 := OI.on ot27 hb28
  have og28 := MI.on og27 hb28
  have ou28 := MI.on ou27 hb28
  have oa28 := OI.on oa27 hb28
  have ob28 := OI.on ob27 hb28
  have hB28 := on_ hB27 hb28
  clear rm27 zm27 rs27 zs27 rg27 zg27 ru27 zu27
  clear km27 ks27 kg27 ku27 or27 oq27 ow27 ot27 og27 ou27 oa27 ob27 hB27
  have hsz28 := hb28.size
  clear hb28
  have rm28 := km28.rule
  have zm28 := km28.lt
  have rs28 := ks28.rule
  have zs28 := ks28.lt
  have rg28 := kg28.rule
  have zg28 := kg28.lt
  have ru28 := ku28.rule
  have zu28 := ku28.lt
  go_wp2_with fail
  refine (eqIntS_same _ _ _ _ ts _ (by exact ob28.rd) (by exact ot28.rd) (by omega)).mono ?_
  rintro e w29 ⟨rfl, hb29⟩
  have km29 : Blk w29 _ _ _ := Blk.on km28 hb29
  have ks29 : Blk w29 _ _ _ := Blk.on ks28 hb29
  have kg29 : Blk w29 _ _ _ := Blk.on kg28 hb29
  have ku29 : Blk w29 _ _ _ := Blk.on ku28 hb29
  have or29 := RdI.on or28 hb29
  have oq29 := RdI.on oq28 hb29
  have ow29 := OI.on ow28 hb29
  have ot29 := OI.on ot28 hb29
  have og29 := MI.on og28 hb29
  have ou29 := MI.on ou28 hb29
  have oa29 := OI.on oa28 hb29
  have ob29 := OI.on ob28 hb29
  have hB29 := on_ hB28 hb29
  clear rm28 zm28 rs28 zs28 rg28 zg28 ru28 zu28
  clear km28 ks28 kg28 ku28 or28 oq28 ow28 ot28 og28 ou28 oa28 ob28 hB28
  have hsz29 := hb29.size
  clear hb29
  have rm29 := km29.rule
  have zm29 := km29.lt
  have rs29 := ks29.rule
  have zs29 := ks29.lt
  have rg29 := kg29.rule
  have zg29 := kg29.lt
  have ru29 := ku29.rule
  have zu29 := ku29.lt
  go_wp2_with fail
  refine (heldStore_own 1 B9 d9 _ _ us.length _ _ og29 hul (by omega) (by omega)).mono ?_
  rintro e w30 ⟨rfl, hb30⟩
  have km30 : Blk w30 _ _ _ := Blk.on km29 hb30
  have ks30 : Blk w30 _ _ _ := Blk.on ks29 hb30
  have kg30 : Blk w30 _ _ _ := Blk.on kg29 hb30
  have ku30 : Blk w30 _ _ _ := Blk.on ku29 hb30
  have or30 := RdI.on or29 hb30
  have oq30 := RdI.on oq29 hb30
  have ow30 := OI.on ow29 hb30
  have ot30 := OI.on ot29 hb30
  have og30 := MI.on og29 hb30
  have ou30 := MI.on ou29 hb30
  have oa30 := OI.on oa29 hb30
  have ob30 := OI.on ob29 hb30
  have hB30 := on_ hB29 hb30
  clear rm29 zm29 rs29 zs29 rg29 zg29 ru29 zu29
  clear km29 ks29 kg29 ku29 or29 oq29 ow29 ot29 og29 ou29 oa29 ob29 hB29
  have hsz30 := hb30.size
  clear hb30
  have rm30 := km30.rule
  have zm30 := km30.lt
  have rs30 := ks30.rule
  have zs30 := ks30.lt
  have rg30 := kg30.rule
  have zg30 := kg30.lt
  have ru30 := ku30.rule
  have zu30 := ku30.lt
  go_wp2_with fail
  refine (heldI_own D9 f9 _ _ ts.length (1 + us.length) _ ou30 (by omega) (by omega) (by omega)).mono ?_
  rintro e w99 ⟨rfl, h99⟩; obtain rfl := h99
  go_wp2
  go_ret
  exact ⟨rfl, hB30⟩
theorem srX_small (vs : List Int) (m : Int) (l : List Int) : (srX vs m l).length ≤ 1048576 := by
  unfold srX
  rcases hq : srQ vs m l with _ | _
  · simp
  · rw [if_pos rfl]
    unfold srQ at hq
    rw [Bool.and_eq_true] at hq
    have := (runX_in (l := l) (inR_of hq.1)).1
    omega
theorem srT_small (vs : List Int) (m : Int) (l : List Int) : (srT vs m l).length ≤ 1048576 := by
  unfold srT
  rcases hq : srQ vs m l with _ | _
  · simp
  · rw [if_pos rfl, runT_len]
    unfold srQ at hq
    rw [Bool.and_eq_true] at hq
    have h1 := of_decide_eq_true hq.2
    have h2 := (stB_yes hq.1).2.1
    omega
theorem walk (A C : Option Addr) (c e0 : Nat) (vs l : List Int) (k : Int) (w : World) (hm : vs.length ≤ maxLen) (hml : l.length ≤ maxLen) (hr : RdI w w.heap.size A vs) (hq : RdI w w.heap.size C l) :
    Calls Try.prog 13 #[.agg #[.slice A vs.length c, .int .i64 k], .slice C l.length e0] w fun e w' => e = .returned (.bool true) ∧ Below w.heap.size w w' :=
  walk0 A C c e0 vs l (srX vs k l) (srT vs k l) k (srM vs k l) (srQ vs k l) w hm hml (srX_small vs k l) (srT_small vs k l) hr hq
    (fun hn hl A C W h h' => specRun_any A C _ _ vs l k W h h' hn hl) (fun hn hl A C W h h' => implRun_any A C _ _ vs l k W h h' hn hl)


theorem closed : joinedFacts Try.prog 13 Try.f13 Rows.fnExactStoreRunSpec Rows.fnExactStoreRunRow = true := by
  unfold joinedFacts
  rw [D.make_is, D.enter_is, D.final_is]
  kernel_rfl

set_option maxRecDepth 100000 in
theorem lifted (os : Os) (started : os.Started) (H : Type) (enc : TypeId × Value → H) :
    ReturnsInHanded {} Try.checked os 13 .any (Rows.fnExactStoreRunSpec.pre6 enc Try.prog Try.f13 Rows.fnExactStoreRunRow.domain false) (Rows.fnExactStoreRunSpec.post enc Try.prog Try.f13 false true false false) := by
  refine returnsInHanded_of_change (C := Try.checked) D.own started (by kernel_rfl) Try.func13
    (ChangeSpec.witness6 (enc := enc) (C := Try.checked) false ⟨#[], #[.agg #[.slice none 0 0, .int .i64 0], .slice none 0 0], []⟩ 8 (by kernel_rfl) (by kernel_rfl) (by kernel_rfl) (by kernel_rfl)) ?_
  intro W base args ds gs before hval0 hW hcnd _
  have hval : ∀ (j : Nat) t v, Try.f13.params[j]? = some t → args[j]? = some v → Value.okWide Try.prog W .any base t v := hval0
  have hW' := hW
  obtain ⟨p, q, hA0, hV, rfl, hfz, hnd⟩ := hW
  have hA : DataW.TrodAll enc Try.prog W 0 (fun _ => true) true Try.f13.params.toList args.toList ds p := hA0
  rw [Try.params13] at hA hval
  obtain ⟨v0, v1, d0, d1, p0, p1, rfl, rfl, rfl, h0, h1⟩ := trodAll_two hA
  obtain ⟨cs0, rfl, hsz0⟩ := okWide_struct Try.underlying62 (hval 0 62 v0 rfl rfl)
  obtain ⟨fuel0, hf0⟩ := h0
  obtain ⟨At, ct, st, kt, hcs0, hmt, hrt⟩ := open_store hf0
  obtain rfl : cs0 = #[.slice At st.length ct, .int .i64 kt] := by
    obtain ⟨l⟩ := cs0
    simpa [Value.cells] using hcs0
  obtain ⟨a1, len1, cap1, rfl⟩ := okWide_slice Try.underlying34 (hval 1 34 v1 rfl rfl)
  obtain ⟨fuel1, hf1⟩ := h1
  obtain ⟨An, cn, sn, hcs1, hmn, hrn⟩ := open_nums hf1
  have hv1 : (Value.slice a1 len1 cap1) = .slice An sn.length cn := by simpa [Value.cells] using hcs1
  rw [hv1] at hW' ⊢
  refine (walk At An ct cn st sn kt W hmt hmn hrt hrn).mono fun e W' ⟨he, hb⟩ => ⟨_, he, law_post D.laidOut hW' hb rfl (by kernel_rfl) Try.underlying4 (by kernel_rfl) rfl⟩

theorem over : Rows.fnExactStoreRunRow.holds Try.pinned (OpenSpec.ofChange Rows.fnExactStoreRunSpec) :=
  OpenClaim.holds_of_wide 13 Try.f13 rfl rfl rfl rfl rfl rfl rfl ⟨rfl, rfl, rfl, rfl, rfl⟩ rfl rfl rfl rfl rfl (by kernel_rfl) Try.func13 closed
    (of_decide_eq_true (by kernel_rfl)) (by unfold Func.isWrapper; first | (rw [if_pos (by decide +kernel)]; kernel_rfl) | (rw [if_neg (by decide +kernel)]; exact ⟨rfl, rfl⟩))
    (fun os started H enc _ => lifted os started H enc)

theorem proved : Rows.FnExactStoreRunSaid :=
  over
end Go.Proofs.Ytfebeafonifpdaa.fnExactStoreRun
