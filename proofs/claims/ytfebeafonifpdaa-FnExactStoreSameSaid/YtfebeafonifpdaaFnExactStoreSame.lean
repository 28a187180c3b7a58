/-
  Proved here: for whatever two stores, StoreSame of the program answers as StoreSame of the model, and the stores read afterwards as before. No condition.
-/
import Derived.Test.YtfebeafonifpdaaRows
import Derived.Test.YtfebeafonifpdaaDoor
import Derived.Test.YtfebeafonifpdaaStS
import Derived.Deep.RegionHeld3
set_option linter.unusedVariables false
set_option maxRecDepth 100000
namespace Go.Proofs.Ytfebeafonifpdaa.fnExactStoreSame
open Go.RowKit Go.ChangeShapes Go.WideShapes Go.Proofs.Ytfebeafonifpdaa.B Go.Proofs.Ytfebeafonifpdaa.V

set_option maxHeartbeats 3200000 in
theorem walk0 (A B : Option Addr) (c d : Nat) (vs xs : List Int) (k j : Int) (r0 : Bool) (w : World) (hm : vs.length ≤ maxLen) (hmx : xs.length ≤ maxLen) (hr : RdI w w.heap.size A vs) (hy : RdI w w.heap.size B xs)
    (hsp : (vs.length ≤ 1048576 → xs.length ≤ 1048576 → ∀ (A B : Option Addr) (W : World), RdI W W.heap.size A vs → RdI W W.heap.size B xs → Calls Try.prog 56 #[.agg #[.slice A vs.length vs.length, .int .i64 k], .agg #[.slice B xs.length xs.length, .int .i64 j]] W fun e w' => e = .returned (.bool r0) ∧ Below W.heap.size W w'))
    (him : (vs.length ≤ 1048576 → xs.length ≤ 1048576 → ∀ (A B : Option Addr) (W : World), RdI W W.heap.size A vs → RdI W W.heap.size B xs → Calls Try.prog 57 #[.agg #[.slice A vs.length vs.length, .int .i64 k], .agg #[.slice B xs.length xs.length, .int .i64 j]] W fun e w' => e = .returned (.bool r0) ∧ Below W.heap.size W w')) :
    Calls Try.prog 15 #[.agg #[.slice A vs.length c, .int .i64 k], .agg #[.slice B xs.length d, .int .i64 j]] w fun e w' => e = .returned (.bool true) ∧ Below w.heap.size w w' := by
  have hkm := (Blk.new w 62 #[.slice A vs.length c, .int .i64 k]).alloc (.cells #[.slice B xs.length d, .int .i64 j] 62)
  have hkv := Blk.new (w.alloc (.cells #[.slice A vs.length c, .int .i64 k] 62)) 62 #[.slice B xs.length d, .int .i64 j]
  simp only [World.size_alloc] at hkv
  by_cases hn : (1048576 : Int) < vs.length
  · go_enter Try.func15, Try.ntmps15
    go_wp2_with fail
    refine (szStore_big A vs.length c k _ _ hm (by omega) (by omega) hn).mono ?_
    rintro e w1 ⟨rfl, hb1⟩
    go_wp2
    go_ret
    exact ⟨rfl, on_ (up_ (up_ (Below.refl _ _) _) _) hb1⟩
  have hn' : vs.length ≤ 1048576 := by omega
  have hsz0 := szStore_small A vs.length c k 1048576 ((w.alloc (.cells #[.slice A vs.length c, .int .i64 k] 62)).alloc (.cells #[.slice B xs.length d, .int .i64 j] 62)) hm (by omega) (by omega) (by omega)
  have HSZ := Lib.hid hsz0; clear hsz0
  by_cases hnx : (1048576 - vs.length : Int) < xs.length
  · go_enter Try.func15, Try.ntmps15
    go_wp2_with fail
    refine HSZ.out.mono ?_
    rintro e w1 ⟨rfl, hb1⟩
    have kv1 := hkv.on hb1
    have rv1 := kv1.rule
    go_wp2_with fail
    refine (szStore_big B xs.length d j _ _ hmx (by omega) (by omega) hnx).mono ?_
    rintro e w2 ⟨rfl, hb2⟩
    go_wp2
    go_ret
    exact ⟨rfl, on_ (on_ (up_ (up_ (Below.refl _ _) _) _) hb1) hb2⟩
  · have hx' : xs.length ≤ 1048576 := by omega
    have hszx := fun W => szStore_small B xs.length d j (1048576 - vs.length) W hmx (by omega) (by omega) (by omega)
    have HSZX := Lib.hid hszx; clear hszx
    have HSP := Lib.hid (hsp hn' hx'); clear hsp
    have HIM := Lib.hid (him hn' hx'); clear him
    have hnq : (r0 != r0) = false := by simp
    have hr0 := (hr.up (.cells #[.slice A vs.length c, .int .i64 k] 62)).up (.cells #[.slice B xs.length d, .int .i64 j] 62)
    have hy0 := (hy.up (.cells #[.slice A vs.length c, .int .i64 k] 62)).up (.cells #[.slice B xs.length d, .int .i64 j] 62)
    clear hr hy hm hmx
    go_enter Try.func15, Try.ntmps15
    go_wp2_with fail
    refine HSZ.out.mono ?_
    rintro e w1 ⟨rfl, hb1⟩
    have km1 := hkm.on hb1
    have kv1 := hkv.on hb1
    have or1 := RdI.on hr0 hb1
    have oy1 := RdI.on hy0 hb1
    have hB1 := on_ (up_ (up_ (Below.refl w.heap.size w) _) _) hb1
    clear hkm hkv hr0 hy0 hb1 HSZ
    have rm1 := km1.rule
    have zm1 := km1.lt
    have rv1 := kv1.rule
    have zv1 := kv1.lt
    go_wp2_with fail
    refine (HSZX.out _).mono ?_
    rintro e w2 ⟨rfl, hb2⟩
    have km2 : Blk w2 _ _ _ := Blk.on km1 hb2
    have kv2 : Blk w2 _ _ _ := Blk.on kv1 hb2
    have or2 := RdI.on or1 hb2
    have oy2 := RdI.on oy1 hb2
    have hB2 := on_ hB1 hb2
    clear rm1 zm1 rv1 zv1
    clear km1 kv1 or1 oy1 hB1
    clear hb2
    have rm2 := km2.rule
    have zm2 := km2.lt
    have rv2 := kv2.rule
    have zv2 := kv2.lt
    clear HSZX
    go_wp2
    go_region_held3 (fun w' => (∀ i, w'.cell? ⟨w.heap.size, i, none⟩ = (#[.slice A vs.length c, .int .i64 k] : Array Value)[i]?) ∧ (∀ i, w'.cell? ⟨w.heap.size + 1, i, none⟩ = (#[.slice B xs.length d, .int .i64 j] : Array Value)[i]?))
      (first | exact ⟨km5.rule, kv5.rule⟩ | exact ⟨km4.rule, kv4.rule⟩ | exact ⟨km3.rule, kv3.rule⟩ | exact ⟨rm2, rv2⟩)
      (first
        | (go_at_call 45; (with_reducible refine (toStore_any A c vs k _ ?_ hn').mono ?_); exact or2; rintro e w3 ⟨g3, cs3, rfl, hg3, hq3, hp3, hb3⟩; have km3 : Blk w3 _ _ _ := Blk.on (w := w2.drew) km2 hb3; have kv3 : Blk w3 _ _ _ := Blk.on (w := w2.drew) kv2 hb3; have or3 := RdI.on (w := w2.drew) or2 hb3; have oy3 := RdI.on (w := w2.drew) oy2 hb3; have hB3 := on_ (hB2).drew hb3; have op3 := hp3.rd hq3 hq3.lt)
        | (go_at_call 45; (with_reducible refine (toStore_any B d xs j _ ?_ hx').mono ?_); exact oy3; rintro e w4 ⟨g4, cs4, rfl, hg4, hq4, hp4, hb4⟩; have km4 : Blk w4 _ _ _ := Blk.on km3 hb4; have kv4 : Blk w4 _ _ _ := Blk.on kv3 hb4; have or4 := RdI.on or3 hb4; have oy4 := RdI.on oy3 hb4; have op4 := RdI.on op3 hb4; have hB4 := on_ hB3 hb4; have oq4 := hp4.rd hq4 hq4.lt)
        | (go_at_call 56; (with_reducible refine (HSP.out _ _ _ ?_ ?_).mono ?_); exact op4; exact oq4; rintro e w5 ⟨rfl, hb5⟩; have km5 : Blk w5 _ _ _ := Blk.on km4 hb5; have kv5 : Blk w5 _ _ _ := Blk.on kv4 hb5; have or5 := RdI.on or4 hb5; have oy5 := RdI.on oy4 hb5; have op5 := RdI.on op4 hb5; have oq5 := RdI.on oq4 hb5; have hB5 := on_ hB4 hb5))
    clear rm2 zm2 rv2 zv2
    clear km2 kv2 or2 oy2 hB2 km3 kv3 or3 oy3 op3 hB3 hb3 km4 kv4 or4 oy4 op4 oq4 hB4 hb4 hb5
    have rm5 := km5.rule
    have zm5 := km5.lt
    have rv5 := kv5.rule
    have zv5 := kv5.lt
    clear op5 oq5
    go_wp2_with fail
    refine (toStore_any A c vs k _ or5 hn').mono ?_
    rintro e w6 ⟨g6, cs6, rfl, hg6, hq6, hp6, hb6⟩
    have km6 : Blk w6 _ _ _ := Blk.on km5 hb6
    have kv6 : Blk w6 _ _ _ := Blk.on kv5 hb6
    have or6 := RdI.on or5 hb6
    have oy6 := RdI.on oy5 hb6
    have hB6 := on_ hB5 hb6
    clear rm5 zm5 rv5 zv5
    clear km5 kv5 or5 oy5 hB5
    have ox6 := hp6.rd hq6 hq6.lt
    clear hb6
    have rm6 := km6.rule
    have zm6 := km6.lt
    have rv6 := kv6.rule
    have zv6 := kv6.lt
    clear hp6 hq6 cs6
    have kx7 := Blk.new w6 36 #[.slice (some ⟨g6, 0, none⟩) vs.length vs.length, .int .i64 k]
    have km7 := Blk.alloc km6 (.cells #[.slice (some ⟨g6, 0, none⟩) vs.length vs.length, .int .i64 k] 36)
    have kv7 := Blk.alloc kv6 (.cells #[.slice (some ⟨g6, 0, none⟩) vs.length vs.length, .int .i64 k] 36)
    have or7 := RdI.up or6 (.cells #[.slice (some ⟨g6, 0, none⟩) vs.length vs.length, .int .i64 k] 36)
    have oy7 := RdI.up oy6 (.cells #[.slice (some ⟨g6, 0, none⟩) vs.length vs.length, .int .i64 k] 36)
    have ox7 := RdI.up ox6 (.cells #[.slice (some ⟨g6, 0, none⟩) vs.length vs.length, .int .i64 k] 36)
    have hB7 := up_ hB6 (.cells #[.slice (some ⟨g6, 0, none⟩) vs.length vs.length, .int .i64 k] 36)
    have hsz7 : (w6.alloc (.cells #[.slice (some ⟨g6, 0, none⟩) vs.length vs.length, .int .i64 k] 36)).heap.size = w6.heap.size + 1 := World.size_alloc _ _
    clear km6 kv6 or6 oy6 ox6 hB6
    clear rm6 zm6 rv6 zv6
    have rrm := km7.rule
    have rrv := kv7.rule
    go_wp2_with fail
    generalize w6.alloc (.cells #[.slice (some ⟨g6, 0, none⟩) vs.length vs.length, .int .i64 k] 36) = w7 at *
    clear rrm rrv
    have rm7 := km7.rule
    have zm7 := km7.lt
    have rv7 := kv7.rule
    have zv7 := kv7.lt
    have rx7 := kx7.rule
    have zx7 := kx7.lt
    clear hsz7
    refine (toStore_any B d xs j _ oy7 hx').mono ?_
    rintro e w8 ⟨g8, cs8, rfl, hg8, hq8, hp8, hb8⟩
    have km8 : Blk w8 _ _ _ := Blk.on km7 hb8
    have kv8 : Blk w8 _ _ _ := Blk.on kv7 hb8
    have kx8 : Blk w8 _ _ _ := Blk.on kx7 hb8
    have or8 := RdI.on or7 hb8
    have oy8 := RdI.on oy7 hb8
    have ox8 := RdI.on ox7 hb8
    have hB8 := on_ hB7 hb8
    clear rm7 zm7 rv7 zv7 rx7 zx7
    clear km7 kv7 kx7 or7 oy7 ox7 hB7
    have oz8 := hp8.rd hq8 hq8.lt
    clear hb8
    have rm8 := km8.rule
    have zm8 := km8.lt
    have rv8 := kv8.rule
    have zv8 := kv8.lt
    have rx8 := kx8.rule
    have zx8 := kx8.lt
    clear hp8 hq8 cs8
    have kz9 := Blk.new w8 36 #[.slice (some ⟨g8, 0, none⟩) xs.length xs.length, .int .i64 j]
    have km9 := Blk.alloc km8 (.cells #[.slice (some ⟨g8, 0, none⟩) xs.length xs.length, .int .i64 j] 36)
    have kv9 := Blk.alloc kv8 (.cells #[.slice (some ⟨g8, 0, none⟩) xs.length xs.length, .int .i64 j] 36)
    have kx9 := Blk.alloc kx8 (.cells #[.slice (some ⟨g8, 0, none⟩) xs.length xs.length, .int .i64 j] 36)
    have or9 := RdI.up or8 (.cells #[.slice (some ⟨g8, 0, none⟩) xs.length xs.length, .int .i64 j] 36)
    have oy9 := RdI.up oy8 (.cells #[.slice (some ⟨g8, 0, none⟩) xs.length xs.length, .int .i64 j] 36)
    have ox9 := RdI.up ox8 (.cells #[.slice (some ⟨g8, 0, none⟩) xs.length xs.length, .int .i64 j] 36)
    have oz9 := RdI.up oz8 (.cells #[.slice (some ⟨g8, 0, none⟩) xs.length xs.length, .int .i64 j] 36)
    have hB9 := up_ hB8 (.cells #[.slice (some ⟨g8, 0, none⟩) xs.length xs.length, .int .i64 j] 36)
    have hsz9 : (w8.alloc (.cells #[.slice (some ⟨g8, 0, none⟩) xs.length xs.length, .int .i64 j] 36)).heap.size = w8.heap.size + 1 := World.size_alloc _ _
    clear km8 kv8 kx8 or8 oy8 ox8 oz8 hB8
    clear rm8 zm8 rv8 zv8 rx8 zx8
    have rrm := km9.rule
    have rrv := kv9.rule
    have rrx := kx9.rule
    go_wp2_with fail
    generalize w8.alloc (.cells #[.slice (some ⟨g8, 0, none⟩) xs.length xs.length, .int .i64 j] 36) = w9 at *
    clear rrm rrv rrx
    have rm9 := km9.rule
    have zm9 := km9.lt
    have rv9 := kv9.rule
    have zv9 := kv9.lt
    have rx9 := kx9.rule
    have zx9 := kx9.lt
    have rz9 := kz9.rule
    have zz9 := kz9.lt
    clear hsz9
    refine (HIM.out _ _ _ (by exact ox9) (by exact oz9)).mono ?_
    rintro e w10 ⟨rfl, hb10⟩
    have km10 : Blk w10 _ _ _ := Blk.on km9 hb10
    have kv10 : Blk w10 _ _ _ := Blk.on kv9 hb10
    have kx10 : Blk w10 _ _ _ := Blk.on kx9 hb10
    have kz10 : Blk w10 _ _ _ := Blk.on kz9 hb10
    have or10 := RdI.on or9 hb10
    have oy10 := RdI.on oy9 hb10
    have ox10 := RdI.on ox9 hb10
    have oz10 := RdI.on oz9 hb10
    have hB10 := on_ hB9 hb10
    clear rm9 zm9 rv9 zv9 rx9 zx9 rz9 zz9
    clear km9 kv9 kx9 kz9 or9 oy9 ox9 oz9 hB9
    clear hb10
    have rm10 := km10.rule
    have zm10 := km10.lt
    have rv10 := kv10.rule
    have zv10 := kv10.lt
    have rx10 := kx10.rule
    have zx10 := kx10.lt
    have rz10 := kz10.rule
    have zz10 := kz10.lt
    go_wp2
    go_region_held3 (fun w' => (∀ i, w'.cell? ⟨w6.heap.size, i, none⟩ = (#[.slice (some ⟨g6, 0, none⟩) vs.length vs.length, .int .i64 k] : Array Value)[i]?) ∧ (∀ i, w'.cell? ⟨w.heap.size, i, none⟩ = (#[.slice A vs.length c, .int .i64 k] : Array Value)[i]?))
      (first | exact ⟨kx12.rule, km12.rule⟩ | exact ⟨kx11.rule, km11.rule⟩ | exact ⟨rx10, rm10⟩)
      (first
        | (go_at_call 45; refine (toStore_any A c vs k _ (by exact or10) hn').mono ?_; rintro e w11 ⟨g11, cs11, rfl, hg11, hq11, hp11, hb11⟩; have km11 : Blk w11 _ _ _ := Blk.on (w := w10.drew) km10 hb11; have kv11 : Blk w11 _ _ _ := Blk.on (w := w10.drew) kv10 hb11; have kx11 : Blk w11 _ _ _ := Blk.on (w := w10.drew) kx10 hb11; have kz11 : Blk w11 _ _ _ := Blk.on (w := w10.drew) kz10 hb11; have or11 := RdI.on (w := w10.drew) or10 hb11; have oy11 := RdI.on (w := w10.drew) oy10 hb11; have ox11 := RdI.on (w := w10.drew) ox10 hb11; have oz11 := RdI.on (w := w10.drew) oz10 hb11; have hB11 := on_ (hB10).drew hb11; have ot11 := hp11.rd hq11 hq11.lt)
        | (go_at_call 41; refine (eqStore_same _ _ _ _ vs k _ (by exact ox11) (by exact ot11) hn').mono ?_; rintro e w12 ⟨rfl, hb12⟩; have km12 : Blk w12 _ _ _ := Blk.on km11 hb12; have kv12 : Blk w12 _ _ _ := Blk.on kv11 hb12; have kx12 : Blk w12 _ _ _ := Blk.on kx11 hb12; have kz12 : Blk w12 _ _ _ := Blk.on kz11 hb12; have or12 := RdI.on or11 hb12; have oy12 := RdI.on oy11 hb12; have ox12 := RdI.on ox11 hb12; have oz12 := RdI.on oz11 hb12; have ot12 := RdI.on ot11 hb12; have hB12 := on_ hB11 hb12))
    clear rm10 zm10 rv10 zv10 rx10 zx10 rz10 zz10
    clear km10 kv10 kx10 kz10 or10 oy10 ox10 oz10 hB10 km11 kv11 kx11 kz11 or11 oy11 ox11 oz11 ot11 hB11 hb11 hb12
    have rm12 := km12.rule
    have zm12 := km12.lt
    have rv12 := kv12.rule
    have zv12 := kv12.lt
    have rx12 := kx12.rule
    have zx12 := kx12.lt
    have rz12 := kz12.rule
    have zz12 := kz12.lt
    clear ot12 ox12
    go_wp2
    go_region_held3 (fun w' => (∀ i, w'.cell? ⟨w8.heap.size, i, none⟩ = (#[.slice (some ⟨g8, 0, none⟩) xs.length xs.length, .int .i64 j] : Array Value)[i]?) ∧ (∀ i, w'.cell? ⟨w.heap.size + 1, i, none⟩ = (#[.slice B xs.length d, .int .i64 j] : Array Value)[i]?))
      (first | exact ⟨kz14.rule, kv14.rule⟩ | exact ⟨kz13.rule, kv13.rule⟩ | exact ⟨rz12, rv12⟩)
      (first
        | (go_at_call 45; refine (toStore_any B d xs j _ (by exact oy12) hx').mono ?_; rintro e w13 ⟨g13, cs13, rfl, hg13, hq13, hp13, hb13⟩; have km13 : Blk w13 _ _ _ := Blk.on (w := w12.drew) km12 hb13; have kv13 : Blk w13 _ _ _ := Blk.on (w := w12.drew) kv12 hb13; have kx13 : Blk w13 _ _ _ := Blk.on (w := w12.drew) kx12 hb13; have kz13 : Blk w13 _ _ _ := Blk.on (w := w12.drew) kz12 hb13; have or13 := RdI.on (w := w12.drew) or12 hb13; have oy13 := RdI.on (w := w12.drew) oy12 hb13; have oz13 := RdI.on (w := w12.drew) oz12 hb13; have hB13 := on_ (hB12).drew hb13; have ot13 := hp13.rd hq13 hq13.lt)
        | (go_at_call 41; refine (eqStore_same _ _ _ _ xs j _ (by exact oz13) (by exact ot13) hx').mono ?_; rintro e w14 ⟨rfl, hb14⟩; have km14 : Blk w14 _ _ _ := Blk.on km13 hb14; have kv14 : Blk w14 _ _ _ := Blk.on kv13 hb14; have kx14 : Blk w14 _ _ _ := Blk.on kx13 hb14; have kz14 : Blk w14 _ _ _ := Blk.on kz13 hb14; have or14 := RdI.on or13 hb14; have oy14 := RdI.on oy13 hb14; have oz14 := RdI.on oz13 hb14; have ot14 := RdI.on ot13 hb14; have hB14 := on_ hB13 hb14))
    clear rm12 zm12 rv12 zv12 rx12 zx12 rz12 zz12
    clear km12 kv12 kx12 kz12 or12 oy12 oz12 hB12 km13 kv13 kx13 kz13 or13 oy13 oz13 ot13 hB13 hb13 hb14
    have rm14 := km14.rule
    have zm14 := km14.lt
    have rv14 := kv14.rule
    have zv14 := kv14.lt
    have rx14 := kx14.rule
    have zx14 := kx14.lt
    have rz14 := kz14.rule
    have zz14 := kz14.lt
    go_wp2
    go_ret
    exact ⟨rfl, hB14⟩
theorem walk (A B : Option Addr) (c d : Nat) (vs xs : List Int) (k j : Int) (w : World) (hm : vs.length ≤ maxLen) (hmx : xs.length ≤ maxLen) (hr : RdI w w.heap.size A vs) (hy : RdI w w.heap.size B xs) :
    Calls Try.prog 15 #[.agg #[.slice A vs.length c, .int .i64 k], .agg #[.slice B xs.length d, .int .i64 j]] w fun e w' => e = .returned (.bool true) ∧ Below w.heap.size w w' :=
  walk0 A B c d vs xs k j (sameB vs k xs j) w hm hmx hr hy (fun hn hx A B W h h' => specSame_any A B _ _ vs xs k j W h h' hn hx) (fun hn hx A B W h h' => implSame_any A B _ _ vs xs k j W h h' hn hx)

theorem closed : joinedFacts Try.prog 15 Try.f15 Rows.fnExactStoreSameSpec Rows.fnExactStoreSameRow = true := by
  unfold joinedFacts
  rw [D.make_is, D.enter_is, D.final_is]
  kernel_rfl

set_option maxRecDepth 100000 in
theorem lifted (os : Os) (started : os.Started) (H : Type) (enc : TypeId × Value → H) :
    ReturnsInHanded {} Try.checked os 15 .any (Rows.fnExactStoreSameSpec.pre6 enc Try.prog Try.f15 Rows.fnExactStoreSameRow.domain false) (Rows.fnExactStoreSameSpec.post enc Try.prog Try.f15 false true false false) := by
  refine returnsInHanded_of_change (C := Try.checked) D.own started (by kernel_rfl) Try.func15
    (ChangeSpec.witness6 (enc := enc) (C := Try.checked) false ⟨#[], #[.agg #[.slice none 0 0, .int .i64 0], .agg #[.slice none 0 0, .int .i64 0]], []⟩ 8 (by kernel_rfl) (by kernel_rfl) (by kernel_rfl) (by kernel_rfl)) ?_
  intro W base args ds gs before hval0 hW hcnd _
  have hval : ∀ (j : Nat) t v, Try.f15.params[j]? = some t → args[j]? = some v → Value.okWide Try.prog W .any base t v := hval0
  have hW' := hW
  obtain ⟨p, q, hA0, hV, rfl, hfz, hnd⟩ := hW
  have hA : DataW.TrodAll enc Try.prog W 0 (fun _ => true) true Try.f15.params.toList args.toList ds p := hA0
  rw [Try.params15] at hA hval
  obtain ⟨v0, v1, d0, d1, p0, p1, rfl, rfl, rfl, h0, h1⟩ := trodAll_two hA
  obtain ⟨cs0, rfl, hsz0⟩ := okWide_struct Try.underlying62 (hval 0 62 v0 rfl rfl)
  obtain ⟨fuel0, hf0⟩ := h0
  obtain ⟨At, ct, st, kt, hcs0, hmt, hrt⟩ := open_store hf0
  obtain rfl : cs0 = #[.slice At st.length ct, .int .i64 kt] := by
    obtain ⟨l⟩ := cs0
    simpa [Value.cells] using hcs0
  obtain ⟨cs1, rfl, hsz1⟩ := okWide_struct Try.underlying62 (hval 1 62 v1 rfl rfl)
  obtain ⟨fuel1, hf1⟩ := h1
  obtain ⟨An, cn, sn, kn, hcs1, hmn, hrn⟩ := open_store hf1
  obtain rfl : cs1 = #[.slice An sn.length cn, .int .i64 kn] := by
    obtain ⟨l⟩ := cs1
    simpa [Value.cells] using hcs1
  refine (walk At An ct cn st sn kt kn W hmt hmn hrt hrn).mono fun e W' ⟨he, hb⟩ => ⟨_, he, law_post D.laidOut hW' hb rfl (by kernel_rfl) Try.underlying4 (by kernel_rfl) rfl⟩

theorem over : Rows.fnExactStoreSameRow.holds Try.pinned (OpenSpec.ofChange Rows.fnExactStoreSameSpec) :=
  OpenClaim.holds_of_wide 15 Try.f15 rfl rfl rfl rfl rfl rfl rfl ⟨rfl, rfl, rfl, rfl, rfl⟩ rfl rfl rfl rfl rfl (by kernel_rfl) Try.func15 closed
    (of_decide_eq_true (by kernel_rfl)) (by unfold Func.isWrapper; first | (rw [if_pos (by decide +kernel)]; kernel_rfl) | (rw [if_neg (by decide +kernel)]; exact ⟨rfl, rfl⟩))
    (fun os started H enc _ => lifted os started H enc)

theorem proved : Rows.FnExactStoreSameSaid :=
  over
end Go.Proofs.Ytfebeafonifpdaa.fnExactStoreSame
