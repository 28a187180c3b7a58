/-
  Proved here: StoreNew of the program answers as StoreNew of the model, and each answer owns its memory. No condition.
-/
import Derived.Test.YtfebeafonifpdaaRows
import Derived.Test.YtfebeafonifpdaaDoor
import Derived.Test.YtfebeafonifpdaaStN
set_option linter.unusedVariables false
set_option maxRecDepth 100000
namespace Go.Proofs.Ytfebeafonifpdaa.fnExactStoreNew
open Go.RowKit Go.ChangeShapes Go.WideShapes Go.Proofs.Ytfebeafonifpdaa.B Go.Proofs.Ytfebeafonifpdaa.V

set_option maxHeartbeats 3200000 in
theorem walk0 (us : List Int) (m : Int) (w : World) (hul : us.length ≤ 1048576) (hsp : (∀ W : World, Calls Try.prog 40 #[] W (SG0 us m W))) (him : (∀ W : World, Calls Try.prog 29 #[] W (SG0 us m W))) :
    Calls Try.prog 10 #[] w fun e w' => e = .returned (.bool true) ∧ Below w.heap.size w w' := by
  have HSP := Lib.hid hsp; clear hsp
  have HIM := Lib.hid him; clear him
  go_enter Try.func10, Try.ntmps10
  go_wp2_with fail
  refine (HSP.out _).mono ?_
  rintro e w1 ⟨B1, d1, rfl, hd1, ow1, hb1⟩
  have hB1 := on_ (Below.refl w.heap.size w) hb1
  have hl1 := ow1.lt
  have hsz1 := hb1.size
  clear hb1 hd1
  have ks2 := Blk.new w1 36 #[.slice B1 us.length d1, .int .i64 m]
  have ow2 := OI.up ow1 (.cells #[.slice B1 us.length d1, .int .i64 m] 36)
  have hB2 := up_ hB1 (.cells #[.slice B1 us.length d1, .int .i64 m] 36)
  have hsz2 : (w1.alloc (.cells #[.slice B1 us.length d1, .int .i64 m] 36)).heap.size = w1.heap.size + 1 := World.size_alloc _ _
  clear ow1 hB1
  go_wp2_with fail
  generalize w1.alloc (.cells #[.slice B1 us.length d1, .int .i64 m] 36) = w2 at *
  have rs2 := ks2.rule
  have zs2 := ks2.lt
  have hps2 := zs2
  clear hsz2
  refine (HIM.out _).mono ?_
  rintro e w3 ⟨B3, d3, rfl, hd3, ho3, hb3⟩
  have ks3 : Blk w3 _ _ _ := Blk.on ks2 hb3
  have ow3 := OI.on ow2 hb3
  have hB3 := on_ hB2 hb3
  clear rs2 zs2
  clear ks2 ow2 hB2
  have og3 := ho3
  have hsz3 := hb3.size
  clear hb3
  have rs3 := ks3.rule
  have zs3 := ks3.lt
  clear hd3 ho3
  have hl3 := og3.lt
  have hg3 := og3.ge
  have kg4 := Blk.new w3 36 #[.slice B3 us.length d3, .int .i64 m]
  have ks4 := Blk.alloc ks3 (.cells #[.slice B3 us.length d3, .int .i64 m] 36)
  have ow4 := OI.up ow3 (.cells #[.slice B3 us.length d3, .int .i64 m] 36)
  have og4 := OI.up og3 (.cells #[.slice B3 us.length d3, .int .i64 m] 36)
  have hB4 := up_ hB3 (.cells #[.slice B3 us.length d3, .int .i64 m] 36)
  have hsz4 : (w3.alloc (.cells #[.slice B3 us.length d3, .int .i64 m] 36)).heap.size = w3.heap.size + 1 := World.size_alloc _ _
  clear ks3 ow3 og3 hB3
  clear rs3 zs3
  have rrs := ks4.rule
  go_wp2_with fail
  generalize w3.alloc (.cells #[.slice B3 us.length d3, .int .i64 m] 36) = w4 at *
  clear rrs
  have rs4 := ks4.rule
  have zs4 := ks4.lt
  have rg4 := kg4.rule
  have zg4 := kg4.lt
  have hpg4 := zg4
  have HS4 := Lib.hid hsz4
  clear hsz4
  refine (eqStore_same _ _ _ _ us m _ (by exact og4.rd) (by exact ow4.rd) hul).mono ?_
  rintro e w5 ⟨rfl, hb5⟩
  have ks5 : Blk w5 _ _ _ := Blk.on ks4 hb5
  have kg5 : Blk w5 _ _ _ := Blk.on kg4 hb5
  have ow5 := OI.on ow4 hb5
  have og5 := OI.on og4 hb5
  have hB5 := on_ hB4 hb5
  clear rs4 zs4 rg4 zg4
  clear ks4 kg4 ow4 og4 hB4
  clear hb5
  have rs5 := ks5.rule
  have zs5 := ks5.lt
  have rg5 := kg5.rule
  have zg5 := kg5.lt
  go_wp2_with fail
  refine (markStore_grow 1 B3 d3 _ _ us _ _ og5 hul (by omega) (by omega)).mono ?_
  rintro e w6 ⟨rfl, og6, row6, hrow6, hgr6⟩
  have ks6 := keep_ ks5 hgr6 (fun e => by have := hg3 _ (hrow6 _ e); omega)
  have kg6 := keep_ kg5 hgr6 (fun e => by have := hl3 _ (hrow6 _ e); omega)
  have ow6 := OI.keep ow5 hgr6 (fun g' e' e => by have := hl1 g' e'; have := hg3 _ (hrow6 _ e); omega)
  have hB6 := hB5.trans (keepB hgr6 (fun g e => by have := hg3 _ (hrow6 _ e); omega) hB5.size)
  clear rs5 zs5 rg5 zg5
  clear ks5 kg5 ow5 og5 hB5
  clear hgr6 hrow6
  have rs6 := ks6.rule
  have zs6 := ks6.lt
  have rg6 := kg6.rule
  have zg6 := kg6.lt
  go_wp2_with fail
  refine (heldStore_own 1 B3 d3 _ _ us.length _ _ og6 hul (by omega) (by omega)).mono ?_
  rintro e w7 ⟨rfl, hb7⟩
  have ks7 : Blk w7 _ _ _ := Blk.on ks6 hb7
  have kg7 : Blk w7 _ _ _ := Blk.on kg6 hb7
  have ow7 := OI.on ow6 hb7
  have og7 := MI.on og6 hb7
  have hB7 := on_ hB6 hb7
  clear rs6 zs6 rg6 zg6
  clear ks6 kg6 ow6 og6 hB6
  clear hb7
  have rs7 := ks7.rule
  have zs7 := ks7.lt
  have rg7 := kg7.rule
  have zg7 := kg7.lt
  have hne : ((1 + (us.length : Int)) != (1 + (us.length : Int))) = false := by simp
  go_wp2_with fail
  refine (HIM.out _).mono ?_
  rintro e w8 ⟨B8, d8, rfl, hd8, ho8, hb8⟩
  have ks8 : Blk w8 _ _ _ := Blk.on ks7 hb8
  have kg8 : Blk w8 _ _ _ := Blk.on kg7 hb8
  have ow8 := OI.on ow7 hb8
  have og8 := MI.on og7 hb8
  have hB8 := on_ hB7 hb8
  clear rs7 zs7 rg7 zg7
  clear ks7 kg7 ow7 og7 hB7
  have ou8 := ho8
  clear hb8
  have rs8 := ks8.rule
  have zs8 := ks8.lt
  have rg8 := kg8.rule
  have zg8 := kg8.lt
  clear hd8 ho8
  have ku9 := Blk.new w8 36 #[.slice B8 us.length d8, .int .i64 m]
  have ks9 := Blk.alloc ks8 (.cells #[.slice B8 us.length d8, .int .i64 m] 36)
  have kg9 := Blk.alloc kg8 (.cells #[.slice B8 us.length d8, .int .i64 m] 36)
  have ow9 := OI.up ow8 (.cells #[.slice B8 us.length d8, .int .i64 m] 36)
  have og9 := MI.up og8 (.cells #[.slice B8 us.length d8, .int .i64 m] 36)
  have ou9 := OI.up ou8 (.cells #[.slice B8 us.length d8, .int .i64 m] 36)
  have hB9 := up_ hB8 (.cells #[.slice B8 us.length d8, .int .i64 m] 36)
  have hsz9 : (w8.alloc (.cells #[.slice B8 us.length d8, .int .i64 m] 36)).heap.size = w8.heap.size + 1 := World.size_alloc _ _
  clear ks8 kg8 ow8 og8 ou8 hB8
  clear rs8 zs8 rg8 zg8
  have rrs := ks9.rule
  have rrg := kg9.rule
  go_wp2_with fail
  generalize w8.alloc (.cells #[.slice B8 us.length d8, .int .i64 m] 36) = w9 at *
  clear rrs rrg
  have rs9 := ks9.rule
  have zs9 := ks9.lt
  have rg9 := kg9.rule
  have zg9 := kg9.lt
  have ru9 := ku9.rule
  have zu9 := ku9.lt
  clear hsz9
  refine (eqStore_same _ _ _ _ us m _ (by exact ou9.rd) (by exact ow9.rd) hul).mono ?_
  rintro e w10 ⟨rfl, hb10⟩
  have ks10 : Blk w10 _ _ _ := Blk.on ks9 hb10
  have kg10 : Blk w10 _ _ _ := Blk.on kg9 hb10
  have ku10 : Blk w10 _ _ _ := Blk.on ku9 hb10
  have ow10 := OI.on ow9 hb10
  have og10 := MI.on og9 hb10
  have ou10 := OI.on ou9 hb10
  have hB10 := on_ hB9 hb10
  clear rs9 zs9 rg9 zg9 ru9 zu9
  clear ks9 kg9 ku9 ow9 og9 ou9 hB9
  clear hb10
  have rs10 := ks10.rule
  have zs10 := ks10.lt
  have rg10 := kg10.rule
  have zg10 := kg10.lt
  have ru10 := ku10.rule
  have zu10 := ku10.lt
  go_wp2_with fail
  refine (heldStore_own 1 B3 d3 _ _ us.length _ _ og10 hul (by omega) (by omega)).mono ?_
  rintro e w11 ⟨rfl, hb11⟩
  have ks11 : Blk w11 _ _ _ := Blk.on ks10 hb11
  have kg11 : Blk w11 _ _ _ := Blk.on kg10 hb11
  have ku11 : Blk w11 _ _ _ := Blk.on ku10 hb11
  have ow11 := OI.on ow10 hb11
  have og11 := MI.on og10 hb11
  have ou11 := OI.on ou10 hb11
  have hB11 := on_ hB10 hb11
  clear rs10 zs10 rg10 zg10 ru10 zu10
  clear ks10 kg10 ku10 ow10 og10 ou10 hB10
  clear hb11
  have rs11 := ks11.rule
  have zs11 := ks11.lt
  have rg11 := kg11.rule
  have zg11 := kg11.lt
  have ru11 := ku11.rule
  have zu11 := ku11.lt
  go_wp2
  go_ret
  exact ⟨rfl, hB11⟩
theorem walk (w : World) : Calls Try.prog 10 #[] w fun e w' => e = .returned (.bool true) ∧ Below w.heap.size w w' :=
  walk0 [0, 0, 0, 0] 0 w (by simp) (fun W => specNew_any W) (fun W => implNew_any W)

theorem closed : joinedFacts Try.prog 10 Try.f10 Rows.fnExactStoreNewSpec Rows.fnExactStoreNewRow = true := by
  unfold joinedFacts
  rw [D.make_is, D.enter_is, D.final_is]
  kernel_rfl

set_option maxRecDepth 100000 in
theorem lifted (os : Os) (started : os.Started) (H : Type) (enc : TypeId × Value → H) :
    ReturnsInHanded {} Try.checked os 10 .any (Rows.fnExactStoreNewSpec.pre6 enc Try.prog Try.f10 Rows.fnExactStoreNewRow.domain false) (Rows.fnExactStoreNewSpec.post enc Try.prog Try.f10 false true false false) := by
  refine returnsInHanded_of_change (C := Try.checked) D.own started (by kernel_rfl) Try.func10
    (ChangeSpec.witness6 (enc := enc) (C := Try.checked) false ⟨#[], #[], []⟩ 8 (by kernel_rfl) (by kernel_rfl) (by kernel_rfl) (by kernel_rfl)) ?_
  intro W base args ds gs before hval0 hW hcnd _
  have hval : ∀ (j : Nat) t v, Try.f10.params[j]? = some t → args[j]? = some v → Value.okWide Try.prog W .any base t v := hval0
  have hW' := hW
  obtain ⟨p, q, hA0, hV, rfl, hfz, hnd⟩ := hW
  have hA : DataW.TrodAll enc Try.prog W 0 (fun _ => true) true Try.f10.params.toList args.toList ds p := hA0
  rw [Try.params10] at hA hval
  obtain ⟨rfl, rfl, rfl⟩ := trodAll_none hA
  refine (walk W).mono fun e W' ⟨he, hb⟩ => ⟨_, he, law_post D.laidOut hW' hb rfl (by kernel_rfl) Try.underlying4 (by kernel_rfl) rfl⟩

theorem over : Rows.fnExactStoreNewRow.holds Try.pinned (OpenSpec.ofChange Rows.fnExactStoreNewSpec) :=
  OpenClaim.holds_of_wide 10 Try.f10 rfl rfl rfl rfl rfl rfl rfl ⟨rfl, rfl, rfl, rfl, rfl⟩ rfl rfl rfl rfl rfl (by kernel_rfl) Try.func10 closed
    (of_decide_eq_true (by kernel_rfl)) (by unfold Func.isWrapper; first | (rw [if_pos (by decide +kernel)]; kernel_rfl) | (rw [if_neg (by decide +kernel)]; exact ⟨rfl, rfl⟩))
    (fun os started H enc _ => lifted os started H enc)

theorem proved : Rows.FnExactStoreNewSaid :=
  over
end Go.Proofs.Ytfebeafonifpdaa.fnExactStoreNew
