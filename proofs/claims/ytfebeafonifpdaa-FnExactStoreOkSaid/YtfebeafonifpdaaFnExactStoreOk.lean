/-
  Proved here: for whatever store, StoreOk of the program answers as StoreOk of the model, and the store reads afterwards as before. No condition.
-/
import Derived.Test.YtfebeafonifpdaaRows
import Derived.Test.YtfebeafonifpdaaDoor
import Derived.Test.YtfebeafonifpdaaStO
import Derived.Deep.RegionHeld3
set_option linter.unusedVariables false
set_option maxRecDepth 100000
namespace Go.Proofs.Ytfebeafonifpdaa.fnExactStoreOk
open Go.RowKit Go.ChangeShapes Go.WideShapes Go.Proofs.Ytfebeafonifpdaa.B Go.Proofs.Ytfebeafonifpdaa.V

set_option maxHeartbeats 3200000 in
theorem walk0 (A : Option Addr) (c : Nat) (vs : List Int) (k : Int) (r0 : Bool) (w : World) (hm : vs.length ≤ maxLen) (hr : RdI w w.heap.size A vs)
    (hsp : vs.length ≤ 1048576 → ∀ (A : Option Addr) (W : World), RdI W W.heap.size A vs → Calls Try.prog 27 #[.agg #[.slice A vs.length vs.length, .int .i64 k]] W fun e w' => e = .returned (.bool r0) ∧ Below W.heap.size W w')
    (him : vs.length ≤ 1048576 → ∀ (A : Option Addr) (W : World), RdI W W.heap.size A vs → Calls Try.prog 28 #[.agg #[.slice A vs.length vs.length, .int .i64 k]] W fun e w' => e = .returned (.bool r0) ∧ Below W.heap.size W w') :
    Calls Try.prog 11 #[.agg #[.slice A vs.length c, .int .i64 k]] w fun e w' => e = .returned (.bool true) ∧ Below w.heap.size w w' := by
  by_cases hn : (1048576 : Int) < vs.length
  · go_enter Try.func11, Try.ntmps11
    go_wp2_with fail
    refine (szStore_big A vs.length c k _ _ hm (by omega) (by omega) hn).mono ?_
    rintro e w1 ⟨rfl, hb1⟩
    go_wp2
    go_ret
    exact ⟨rfl, on_ (up_ (Below.refl _ _) _) hb1⟩
  · have hn' : vs.length ≤ 1048576 := by omega
    have HSP := Lib.hid (hsp hn'); clear hsp
    have HIM := Lib.hid (him hn'); clear him
    have hnq : ∀ i : Bool, (i != i) = false := fun i => by simp
    have hkm := Blk.new w 62 #[.slice A vs.length c, .int .i64 k]
    have hr0 := hr.up (.cells #[.slice A vs.length c, .int .i64 k] 62)
    have hsz0 := szStore_small A vs.length c k 1048576 (w.alloc (.cells #[.slice A vs.length c, .int .i64 k] 62)) hm (by omega) (by omega) (by omega)
    have HSZ := Lib.hid hsz0; clear hsz0 hr hm
    go_enter Try.func11, Try.ntmps11
    go_wp2_with fail
    refine HSZ.out.mono ?_
    rintro e w1 ⟨rfl, hb1⟩
    have km1 := hkm.on hb1
    have or1 := RdI.on hr0 hb1
    have hB1 := on_ (up_ (Below.refl w.heap.size w) _) hb1
    clear hkm hr0 hb1 HSZ
    have rm1 := km1.rule
    have zm1 := km1.lt
    go_wp2_with fail
    refine (toStore_any A c vs k _ or1 hn').mono ?_
    rintro e w2 ⟨g2, cs2, rfl, hg2, hq2, hp2, hb2⟩
    have km2 : Blk w2 _ _ _ := Blk.on km1 hb2
    have or2 := RdI.on or1 hb2
    have hB2 := on_ hB1 hb2
    clear rm1 zm1
    clear km1 or1 hB1
    have oy2 := hp2.rd hq2 hq2.lt
    clear hb2
    have rm2 := km2.rule
    have zm2 := km2.lt
    clear hp2 hq2 hg2 cs2
    go_wp2_with fail
    refine (HSP.out _ _ (by exact oy2)).mono ?_
    rintro e w3 ⟨rfl, hb3⟩
    have km3 : Blk w3 _ _ _ := Blk.on km2 hb3
    have or3 := RdI.on or2 hb3
    have oy3 := RdI.on oy2 hb3
    have hB3 := on_ hB2 hb3
    clear rm2 zm2
    clear km2 or2 oy2 hB2
    clear hb3
    have rm3 := km3.rule
    have zm3 := km3.lt
    clear oy3
    go_wp2_with fail
    refine (toStore_any A c vs k _ or3 hn').mono ?_
    rintro e w4 ⟨g4, cs4, rfl, hg4, hq4, hp4, hb4⟩
    have km4 : Blk w4 _ _ _ := Blk.on km3 hb4
    have or4 := RdI.on or3 hb4
    have hB4 := on_ hB3 hb4
    clear rm3 zm3
    clear km3 or3 hB3
    have ox4 := hp4.rd hq4 hq4.lt
    clear hb4
    have rm4 := km4.rule
    have zm4 := km4.lt
    clear hp4 hq4 cs4
    have kx5 := Blk.new w4 36 #[.slice (some ⟨g4, 0, none⟩) vs.length vs.length, .int .i64 k]
    have km5 := Blk.alloc km4 (.cells #[.slice (some ⟨g4, 0, none⟩) vs.length vs.length, .int .i64 k] 36)
    have or5 := RdI.up or4 (.cells #[.slice (some ⟨g4, 0, none⟩) vs.length vs.length, .int .i64 k] 36)
    have ox5 := RdI.up ox4 (.cells #[.slice (some ⟨g4, 0, none⟩) vs.length vs.length, .int .i64 k] 36)
    have hB5 := up_ hB4 (.cells #[.slice (some ⟨g4, 0, none⟩) vs.length vs.length, .int .i64 k] 36)
    have hsz5 : (w4.alloc (.cells #[.slice (some ⟨g4, 0, none⟩) vs.length vs.length, .int .i64 k] 36)).heap.size = w4.heap.size + 1 := World.size_alloc _ _
    clear km4 or4 ox4 hB4
    clear rm4 zm4
    have rrm := km5.rule
    go_wp2_with fail
    generalize w4.alloc (.cells #[.slice (some ⟨g4, 0, none⟩) vs.length vs.length, .int .i64 k] 36) = w5 at *
    clear rrm
    have rm5 := km5.rule
    have zm5 := km5.lt
    have rx5 := kx5.rule
    have zx5 := kx5.lt
    clear hsz5
    refine (HIM.out _ _ (by exact ox5)).mono ?_
    rintro e w6 ⟨rfl, hb6⟩
    have km6 : Blk w6 _ _ _ := Blk.on km5 hb6
    have kx6 : Blk w6 _ _ _ := Blk.on kx5 hb6
    have or6 := RdI.on or5 hb6
    have ox6 := RdI.on ox5 hb6
    have hB6 := on_ hB5 hb6
    clear rm5 zm5 rx5 zx5
    clear km5 kx5 or5 ox5 hB5
    clear hb6
    have rm6 := km6.rule
    have zm6 := km6.lt
    have rx6 := kx6.rule
    have zx6 := kx6.lt
    go_wp2
    go_region_held3 (fun w' => (∀ i, w'.cell? ⟨w4.heap.size, i, none⟩ = (#[.slice (some ⟨g4, 0, none⟩) vs.length vs.length, .int .i64 k] : Array Value)[i]?) ∧ (∀ i, w'.cell? ⟨w.heap.size, i, none⟩ = (#[.slice A vs.length c, .int .i64 k] : Array Value)[i]?))
      (first | exact ⟨kx8.rule, km8.rule⟩ | exact ⟨kx7.rule, km7.rule⟩ | exact ⟨rx6, rm6⟩)
      (first
        | (go_at_call 45; refine (toStore_any A c vs k _ (by exact or6) hn').mono ?_; rintro e w7 ⟨g7, cs7, rfl, hg7, hq7, hp7, hb7⟩; have km7 : Blk w7 _ _ _ := Blk.on (w := w6.drew) km6 hb7; have kx7 : Blk w7 _ _ _ := Blk.on (w := w6.drew) kx6 hb7; have or7 := RdI.on (w := w6.drew) or6 hb7; have ox7 := RdI.on (w := w6.drew) ox6 hb7; have hB7 := on_ (hB6).drew hb7; have ot7 := hp7.rd hq7 hq7.lt)
        | (go_at_call 41; refine (eqStore_same _ _ _ _ vs k _ (by exact ox7) (by exact ot7) hn').mono ?_; rintro e w8 ⟨rfl, hb8⟩; have km8 : Blk w8 _ _ _ := Blk.on km7 hb8; have kx8 : Blk w8 _ _ _ := Blk.on kx7 hb8; have or8 := RdI.on or7 hb8; have ox8 := RdI.on ox7 hb8; have ot8 := RdI.on ot7 hb8; have hB8 := on_ hB7 hb8))
    clear rm6 zm6 rx6 zx6
    clear km6 kx6 or6 ox6 hB6 km7 kx7 or7 ox7 ot7 hB7 hb7 hb8
    have rm8 := km8.rule
    have zm8 := km8.lt
    have rx8 := kx8.rule
    have zx8 := kx8.lt
    go_wp2
    go_ret
    exact ⟨rfl, hB8⟩
theorem walk (A : Option Addr) (c : Nat) (vs : List Int) (k : Int) (w : World) (hm : vs.length ≤ maxLen) (hr : RdI w w.heap.size A vs) :
    Calls Try.prog 11 #[.agg #[.slice A vs.length c, .int .i64 k]] w fun e w' => e = .returned (.bool true) ∧ Below w.heap.size w w' :=
  walk0 A c vs k _ w hm hr (fun hn A W h => specStoreOk_any A _ vs k W h hn) (fun hn A W h => implStoreOk_any A _ vs k W h hn)

theorem closed : joinedFacts Try.prog 11 Try.f11 Rows.fnExactStoreOkSpec Rows.fnExactStoreOkRow = true := by
  unfold joinedFacts
  rw [D.make_is, D.enter_is, D.final_is]
  kernel_rfl

set_option maxRecDepth 100000 in
theorem lifted (os : Os) (started : os.Started) (H : Type) (enc : TypeId × Value → H) :
    ReturnsInHanded {} Try.checked os 11 .any (Rows.fnExactStoreOkSpec.pre6 enc Try.prog Try.f11 Rows.fnExactStoreOkRow.domain false) (Rows.fnExactStoreOkSpec.post enc Try.prog Try.f11 false true false false) := by
  refine returnsInHanded_of_change (C := Try.checked) D.own started (by kernel_rfl) Try.func11
    (ChangeSpec.witness6 (enc := enc) (C := Try.checked) false ⟨#[], #[.agg #[.slice none 0 0, .int .i64 0]], []⟩ 8 (by kernel_rfl) (by kernel_rfl) (by kernel_rfl) (by kernel_rfl)) ?_
  intro W base args ds gs before hval0 hW hcnd _
  have hval : ∀ (j : Nat) t v, Try.f11.params[j]? = some t → args[j]? = some v → Value.okWide Try.prog W .any base t v := hval0
  have hW' := hW
  obtain ⟨p, q, hA0, hV, rfl, hfz, hnd⟩ := hW
  have hA : DataW.TrodAll enc Try.prog W 0 (fun _ => true) true Try.f11.params.toList args.toList ds p := hA0
  rw [Try.params11] at hA hval
  obtain ⟨v0, d0, rfl, rfl, h0⟩ := trodAll_one hA
  obtain ⟨cs0, rfl, hsz0⟩ := okWide_struct Try.underlying62 (hval 0 62 v0 rfl rfl)
  obtain ⟨fuel0, hf0⟩ := h0
  obtain ⟨At, ct, st, kt, hcs0, hmt, hrt⟩ := open_store hf0
  obtain rfl : cs0 = #[.slice At st.length ct, .int .i64 kt] := by
    obtain ⟨l⟩ := cs0
    simpa [Value.cells] using hcs0
  refine (walk At ct st kt W hmt hrt).mono fun e W' ⟨he, hb⟩ => ⟨_, he, law_post D.laidOut hW' hb rfl (by kernel_rfl) Try.underlying4 (by kernel_rfl) rfl⟩

theorem over : Rows.fnExactStoreOkRow.holds Try.pinned (OpenSpec.ofChange Rows.fnExactStoreOkSpec) :=
  OpenClaim.holds_of_wide 11 Try.f11 rfl rfl rfl rfl rfl rfl rfl ⟨rfl, rfl, rfl, rfl, rfl⟩ rfl rfl rfl rfl rfl (by kernel_rfl) Try.func11 closed
    (of_decide_eq_true (by kernel_rfl)) (by unfold Func.isWrapper; first | (rw [if_pos (by decide +kernel)]; kernel_rfl) | (rw [if_neg (by decide +kernel)]; exact ⟨rfl, rfl⟩))
    (fun os started H enc _ => lifted os started H enc)

theorem proved : Rows.FnExactStoreOkSaid :=
  over
end Go.Proofs.Ytfebeafonifpdaa.fnExactStoreOk
