/-
  Proved here: for whatever cluster and numbers, OnLink of the program answers as OnLink of the model, the argument reads afterwards as before, and the answer owns its memory. No condition.
-/
import Derived.Test.YtfdfjmibjnmhpaaGreatRows
import Derived.Test.YtfdfjmibjnmhpaaGreatK19
import Derived.Test.YtfdfjmibjnmhpaaGreatK16
import Derived.Test.YtfdfjmibjnmhpaaGreatK17
import Derived.Deep.RegionHeld3
set_option linter.unusedVariables false
set_option maxRecDepth 100000
namespace Go.Proofs.YtfdfjmibjnmhpaaGreat.fnExactOnLink
open Go.RowKit Go.ChangeShapes Go.WideShapes Go.Proofs.YtfdfjmibjnmhpaaGreat.B Go.Proofs.YtfdfjmibjnmhpaaGreat.V
theorem dr_ {w : World} {q : Cq} (h : RdC4 w w.heap.size q) : RdC4 w.drew w.drew.heap.size q := h.dr
theorem sh_dr {lo hi : Nat} {a w : World} (h : Sh lo hi a w) (hh : hi ≤ a.heap.size) : Sh lo hi a w.drew := h.on (Below.refl _ _).drew hh
theorem mid_blk {lo hi : Nat} {w w' : World} {g t : Nat} {cs : Array Value} (h : Blk w g t cs) (hm : Mid lo hi w w') (hl : g < lo) : Blk w' g t cs := (hm.block g h.lt (.inl hl)).trans h
set_option maxHeartbeats 6400000 in
theorem walk0 (q : Cq) (a : Int) (b : Int) (xs : List Mp) (hxl0 : totC q ≤ 1048576 → xs.length + tvM xs xs.length ≤ 1048576) (w : World) (hL : LensC q) (hr : RdC4 w w.heap.size q)
    (hsp : FewC q → ∀ (p : Cq) (W : World), p.dat = q.dat → FewC p → RdC4 W W.heap.size p → Calls Tryz.prog 16 #[p.agg, .int .i64 a, .int .i64 b] W (MR2 xs W))
    (him : FewC q → ∀ (p : Cq) (W : World), p.dat = q.dat → FewC p → RdC4 W W.heap.size p → Calls Tryz.prog 17 #[p.agg, .int .i64 a, .int .i64 b] W (MR2 xs W)) :
    Calls Tryz.prog 4 #[q.agg, .int .i64 a, .int .i64 b] w fun e w' => e = .returned (.bool true) ∧ Below w.heap.size w w' := by
  have hsz := szCluster_any q 1048576 (w.alloc (.cells q.cells 26)) (hr.up (.cells q.cells 26)) hL (by omega) (by omega)
  by_cases hn : (1048576 : Int) < (totC q : Int)
  · rw [if_pos hn] at hsz
    have H1 := Lib.hid hsz
    clear hsp him hsz hr hL hn hxl0
    have hB := up_ (Below.refl w.heap.size w) (.cells q.cells 26)
    have ka := Blk.new w 26 q.cells
    obtain ⟨n, bad, rs, nt, Ab, Ar, An, cb, cr, cn⟩ := q
    simp only [Cq.agg, Cq.cells] at *
    have ra := ka.rule
    go_enter Tryz.func4, Tryz.ntmps4
    go_wp2_with fail
    refine H1.out.mono ?_
    rintro e w1 ⟨rfl, hb1⟩
    have hB1 := on_ hB hb1
    clear ra ka hB hb1
    go_wp2
    go_ret
    exact ⟨rfl, hB1⟩
  · rw [if_neg hn] at hsz
    have hfew : FewC q := fewC_of (by omega)
    have htot : totC q ≤ 1048576 := by omega
    have hxl := hxl0 htot; clear hxl0
    obtain ⟨y, hy⟩ : ∃ y : Int, 1048576 - (totC q : Int) = y := ⟨_, rfl⟩
    rw [hy] at hsz
    have hy0 : 0 ≤ y := by omega
    have hy1 : ¬ y < 0 := by omega
    have hy2 : y ≤ 1048576 := by omega
    clear hy
    have H1 := Lib.hid hsz; clear hsz hn hL
    have HSP := Lib.hid (hsp hfew); have HIM := Lib.hid (him hfew); clear hsp him
    have HT := Lib.hid (fun (W : World) (h : Below w.heap.size w W) => toCluster_shp q W ((hr.below h).more h.size) hfew)
    have HE := Lib.hid (fun (a b : Cq) (ha : a.dat = q.dat) (hb : b.dat = q.dat) (W : World) (h1 : RdC4 W W.heap.size a) (h2 : RdC4 W W.heap.size b) => eqCluster_same a b (hb.trans ha.symm) W h1 h2 (hfew.same ha))
    have HF := Lib.hid (fun (a : Cq) (ha : a.dat = q.dat) => hfew.same ha)
    have HMK := Lib.hid (fun (lo hi : Nat) (a : Cq) (ha : a.dat = q.dat) (W : World) (hh : hi ≤ W.heap.size) (hS : CSh lo hi W a) => wCluster a 1 W (Sh.refl lo hi W) hh hS (hfew.same ha) (by rw [totC_same ha]; exact htot) (by omega) (by omega))
    have HB0 := Lib.hid (up_ (Below.refl w.heap.size w) (.cells q.cells 26))
    have ka0 := Blk.new w 26 q.cells
    have HXL := Lib.hid (fun (vs : List Mp) (h : vs.map Mp.dat = xs.map Mp.dat) => (by rw [tv_same9 h]; exact hxl : vs.length + tvM vs vs.length ≤ 1048576))
    obtain ⟨M, hM0⟩ : ∃ M, kM xs 1 xs.length = M := ⟨_, rfl⟩
    have hMt := kM_top hxl
    have hMg := kM_ge xs 1 xs.length
    rw [hM0] at hMt hMg
    have HM := Lib.hid (fun (vs : List Mp) (h : vs.map Mp.dat = xs.map Mp.dat) => (by rw [kM_same h, same_len9 h]; exact hM0 : kM vs 1 vs.length = M))
    clear hfew hr htot hxl hM0
    have hne : (M != M) = false := by simp
    have hMn : decide (M < 0) = false := decide_eq_false (by omega)
    have hnq : ∀ i : Bool, (i != i) = false := fun i => by simp
    obtain ⟨V, hV⟩ : ∃ V, q = V := ⟨_, rfl⟩
    obtain ⟨n, bad, rs, nt, Ab, Ar, An, cb, cr, cn⟩ := q
    simp only [Cq.agg, Cq.cells] at *
    have rka0 := ka0.rule
    go_enter Tryz.func4, Tryz.ntmps4
    go_wp2_with fail
    refine (H1.out).mono ?_
    rintro e w1 ⟨rfl, hb⟩
    have HB1 := Lib.hid (on_ HB0.out hb)
    have ka1 := ka0.on hb
    clear HB0 ka0 rka0
    have rka1 := ka1.rule
    clear hb
    clear H1
    go_wp2_with fail
    refine (HT.out w1 HB1.out).mono ?_
    rintro e w2 ⟨⟨n2, bad2, rs2, nt2, Ab2, Ar2, An2, cb2, cr2, cn2⟩, rfl, hd2, hrq2, hb⟩
    have HB2 := Lib.hid (on_ HB1.out hb)
    have ka2 := ka1.on hb
    clear HB1 ka1 rka1
    have rka2 := ka2.rule
    clear hb
    dsimp only
    have HD2 := Lib.hid hd2; have HQ2 := Lib.hid hrq2.1; clear hd2 hrq2
    go_wp2_with fail
    refine (HSP.out _ w2 HD2.out (HF.out _ HD2.out) HQ2.out).mono ?_
    rintro e w3 ⟨AXs, dXs, vs, rfl, hvs, hos, hb⟩
    have HB3 := Lib.hid (on_ HB2.out hb)
    have ka3 := ka2.on hb
    clear HB2 ka2 rka2
    have rka3 := ka3.rule
    clear hb
    have HOS := Lib.hid hos.rd; have HVS := Lib.hid hvs; clear hos hvs HQ2 HD2
    have hz3 : w.heap.size < w3.heap.size := ka3.lt
    obtain ⟨ls, hls⟩ : ∃ l, vs.length = l := ⟨_, rfl⟩
    have HLS := Lib.hid hls
    rw [hls]
    clear hls
    have HW3 := Lib.hid (Below.refl w3.heap.size w3)
    go_wp2_with fail
    refine (HT.out w3 HB3.out).mono ?_
    rintro e w4 ⟨⟨n4, bad4, rs4, nt4, Ab4, Ar4, An4, cb4, cr4, cn4⟩, rfl, hd4, hrq4, hb⟩
    have hz4 : w3.heap.size ≤ w4.heap.size := hb.size
    have HB4 := Lib.hid (on_ HB3.out hb)
    have ka4 := ka3.on hb
    have HW4 := Lib.hid (on_ HW3.out hb)
    clear HB3 ka3 HW3 rka3
    have rka4 := ka4.rule
    clear hb
    dsimp only
    have HD4 := Lib.hid hd4; have HQ4 := Lib.hid hrq4.1; have HQS := Lib.hid hrq4.2; clear hd4 hrq4
    have HSH4 := Lib.hid (Sh.refl w3.heap.size w4.heap.size w4)
    go_wp2_with fail
    have kx4b := Blk.new w4 33 #[.int .i64 n4, .slice Ab4 bad4.length cb4, .slice Ar4 rs4.length cr4, .slice An4 nt4.length cn4]
    have HB4b := Lib.hid (up_ HB4.out (.cells #[.int .i64 n4, .slice Ab4 bad4.length cb4, .slice Ar4 rs4.length cr4, .slice An4 nt4.length cn4] 33)); have HW4b := Lib.hid (up_ HW4.out (.cells #[.int .i64 n4, .slice Ab4 bad4.length cb4, .slice Ar4 rs4.length cr4, .slice An4 nt4.length cn4] 33)); have ka4b := ka4.up (.cells #[.int .i64 n4, .slice Ab4 bad4.length cb4, .slice Ar4 rs4.length cr4, .slice An4 nt4.length cn4] 33); have HSH4b := Lib.hid (HSH4.out.on ((Below.refl _ _).alloc (Nat.le_refl _) (.cells #[.int .i64 n4, .slice Ab4 bad4.length cb4, .slice Ar4 rs4.length cr4, .slice An4 nt4.length cn4] 33)) (Nat.le_refl _)); have HQ4b := Lib.hid (HQ4.out.up (.cells #[.int .i64 n4, .slice Ab4 bad4.length cb4, .slice Ar4 rs4.length cr4, .slice An4 nt4.length cn4] 33))
    clear HB4 HW4 ka4 HSH4 HQ4 rka4
    refine (HIM.out _ _ HD4.out (HF.out _ HD4.out) HQ4b.out).mono ?_
    rintro e w5 ⟨AXg, dXg, vg, rfl, hvg, hog, hb⟩
    have hsb : (w4.alloc (.cells #[.int .i64 n4, .slice Ab4 bad4.length cb4, .slice Ar4 rs4.length cr4, .slice An4 nt4.length cn4] 33)).heap.size = w4.heap.size + 1 := World.size_alloc _ _
    rw [hsb] at hog
    have hz5 : w4.heap.size + 1 ≤ w5.heap.size := by have := hb.size; rw [hsb] at this; exact this
    have HB5 := Lib.hid (on_ HB4b.out hb); have HW5 := Lib.hid (on_ HW4b.out hb); have ka5 := ka4b.on hb; have kx5 := kx4b.on hb; have HSH5 := Lib.hid (HSH4b.out.on hb (Nat.le_refl _)); have HQ5 := Lib.hid (HQ4b.out.on hb); have HOG5 := Lib.hid hog; have HVG := Lib.hid hvg
    have hlg : vg.length = ls := (same_len9 (hvg.trans HVS.out.symm)).trans HLS.out
    have HLG := Lib.hid hlg
    rw [hlg]
    clear hb hog hvg hlg hsb HB4b HW4b ka4b kx4b HSH4b HQ4b
    have rka5 := ka5.rule; have rkx5 := kx5.rule
    have heq5 := eqMsgS_same AXg AXs dXg dXs vg vs (HVS.out.trans HVG.out.symm) w5 HOG5.out.rd ((HOS.out.below HW5.out).more HW5.out.size) (tv_few (HXL.out _ HVG.out))
    rw [HLG.out] at heq5
    have HEQ5 := Lib.hid heq5
    clear heq5
    go_wp2_with fail
    refine (HEQ5.out).mono ?_
    rintro e w6 ⟨rfl, hb⟩
    have hzs6 : w5.heap.size ≤ w6.heap.size := hb.size
    have HB6 := Lib.hid (on_ HB5.out hb)
    have HW6 := Lib.hid (on_ HW5.out hb)
    have ka6 := ka5.on hb
    have kx6 := kx5.on hb
    have HSH6 := Lib.hid (HSH5.out.on hb (Nat.le_refl _))
    have HQ6 := Lib.hid (HQ5.out.on hb)
    have HOG6 := Lib.hid (HOG5.out.on hb)
    clear HB5 HW5 ka5 kx5 HSH5 HQ5 HOG5 rka5 rkx5
    have rka6 := ka6.rule
    have rkx6 := kx6.rule
    clear hb
    clear HEQ5
    go_wp2
    go_region_held3 (fun w' => (∀ i, w'.cell? ⟨w4.heap.size, i, none⟩ = (#[.int .i64 n4, .slice Ab4 bad4.length cb4, .slice Ar4 rs4.length cr4, .slice An4 nt4.length cn4] : Array Value)[i]?) ∧ (∀ i, w'.cell? ⟨w.heap.size, i, none⟩ = (#[.int .i64 n, .slice Ab bad.length cb, .slice Ar rs.length cr, .slice An nt.length cn] : Array Value)[i]?))
      (first | exact ⟨kx8.rule, ka8.rule⟩ | exact ⟨kx7.rule, ka7.rule⟩ | exact ⟨rkx6, rka6⟩)
      (first
        | (go_at_call 9; refine (HT.out _ (by exact HB6.out.drew)).mono ?_; rintro e w7 ⟨⟨n6, bad6, rs6, nt6, Ab6, Ar6, An6, cb6, cr6, cn6⟩, rfl, hd, hrq, hb⟩; have hzs7 : w6.heap.size ≤ w7.heap.size := hb.size; have ka7 : Blk w7 _ _ _ := Blk.on (w := w6.drew) ka6 hb; have kx7 : Blk w7 _ _ _ := Blk.on (w := w6.drew) kx6 hb; have HD6 := Lib.hid hd; have HQ6_ := Lib.hid hrq.1; have HQ7 := Lib.hid (RdC4.on (w := w6.drew) (dr_ HQ6.out) hb); have HB7 := Lib.hid (on_ (HB6.out).drew hb); have HW7 := Lib.hid (on_ (HW6.out).drew hb); have HOG7 := Lib.hid (OG.on (w := w6.drew) (HOG6.out.on (Below.refl _ _).drew) hb); have HSH7 := Lib.hid ((sh_dr HSH6.out (Nat.le_refl _)).on hb (Nat.le_refl _)); clear hd hrq hb)
        | (go_at_call 12; refine (HE.out _ _ HD4.out HD6.out _ HQ7.out HQ6_.out).mono ?_; rintro e w8 ⟨rfl, hb⟩; have hzs8 : w7.heap.size ≤ w8.heap.size := hb.size; have ka8 : Blk w8 _ _ _ := Blk.on ka7 hb; have kx8 : Blk w8 _ _ _ := Blk.on kx7 hb; have HB8 := Lib.hid (on_ HB7.out hb); have HW8 := Lib.hid (on_ HW7.out hb); have HOG8 := Lib.hid (HOG7.out.on hb); have HSH8 := Lib.hid (HSH7.out.on hb (Nat.le_refl _)); clear hb))
    clear ka6 kx6 rka6 rkx6 HB6 HW6 HOG6 HSH6 HQ6 ka7 kx7 HB7 HW7 HOG7 HSH7 HQ7 HD6 HQ6_
    have rka8 := ka8.rule; have rkx8 := kx8.rule
    have hz8 := HSH8.out.size
    go_wp2_with fail
    refine (HMK.out w3.heap.size w4.heap.size _ HD4.out w8 hz8 (HQS.out.sh HSH8.out)).mono ?_
    rintro e w9 ⟨r9, rfl, hr9, hr9b, hsh⟩
    have hzs9 := hsh.size
    have HB9 := Lib.hid (HB8.out.trans (hsh.below (Nat.le_of_lt hz3) HB8.out.size))
    have HW9 := Lib.hid (HW8.out.trans (hsh.below (Nat.le_refl _) HW8.out.size))
    have ka9 := ka8.sh hsh (.inl hz3)
    have HOG9 := Lib.hid (HOG8.out.sh hsh (Nat.le_succ _))
    clear HB8 HW8 ka8 kx8 rka8 rkx8 HOG8 HSH8 HQS HMK hsh hr9b
    have hk9 : decide (r9 < 0) = false := decide_eq_false (by omega)
    have rka9 := ka9.rule
    have heq9 := eqMsgS_same AXg AXs dXg dXs vg vs (HVS.out.trans HVG.out.symm) w9 HOG9.out.rd ((HOS.out.below HW9.out).more HW9.out.size) (tv_few (HXL.out _ HVG.out))
    rw [HLG.out] at heq9
    have HEQ9 := Lib.hid heq9
    clear heq9
    go_wp2_with fail
    refine (HEQ9.out).mono ?_
    rintro e w10 ⟨rfl, hb⟩
    have hzs10 : w9.heap.size ≤ w10.heap.size := hb.size
    have HB10 := Lib.hid (on_ HB9.out hb)
    have HW10 := Lib.hid (on_ HW9.out hb)
    have ka10 := ka9.on hb
    have HOG10 := Lib.hid (HOG9.out.on hb)
    clear HB9 HW9 ka9 HOG9 rka9
    have rka10 := ka10.rule
    clear hb
    clear HEQ9
    have hmk := mMS_grow M AXg dXg _ vg w10 HOG10.out (HXL.out _ HVG.out) (HM.out _ HVG.out)
    rw [HLG.out] at hmk
    have HMM := Lib.hid hmk
    clear hmk
    go_wp2_with fail
    refine HMM.out.mono ?_
    rintro e w11 ⟨rfl, hmg, hmid⟩
    have hz10_ : w5.heap.size ≤ w10.heap.size := by omega
    have hz10 : w4.heap.size + 1 ≤ w10.heap.size := by have := hz5; have := hz10_; omega
    have hzw : w3.heap.size ≤ w4.heap.size := hz4
    have HB11 := Lib.hid (HB10.out.trans ((hmid.below hz10).mono (by omega)))
    have HW11 := Lib.hid (HW10.out.trans ((hmid.below hz10).mono (by omega)))
    have ka11 := mid_blk ka10 hmid (by omega)
    have HMG11 := Lib.hid hmg
    clear HB10 HW10 ka10 rka10 HOG10 HMM hmg hmid hz10
    have rka11 := ka11.rule
    have hhd := heldMS_own M AXg dXg vg w11 HMG11.out (HXL.out _ HVG.out) (HM.out _ HVG.out)
    rw [HLG.out] at hhd
    have HHD := Lib.hid hhd
    clear hhd
    go_wp2_with fail
    refine HHD.out.mono ?_
    rintro e w99 ⟨rfl, h99⟩; obtain rfl := h99
    clear HHD
    go_wp2_with fail
    refine (HT.out w11 HB11.out).mono ?_
    rintro e w12 ⟨⟨n12, bad12, rs12, nt12, Ab12, Ar12, An12, cb12, cr12, cn12⟩, rfl, hd12, hrq12, hb⟩
    have HB12 := Lib.hid (on_ HB11.out hb)
    have HW12 := Lib.hid (on_ HW11.out hb)
    have ka12 := ka11.on hb
    have HMG12 := Lib.hid (HMG11.out.on hb)
    clear HB11 HW11 ka11 HMG11 rka11
    have rka12 := ka12.rule
    clear hb
    dsimp only
    have HD12 := Lib.hid hd12; have HQ12 := Lib.hid hrq12.1; clear hd12 hrq12
    go_wp2_with fail
    refine (HIM.out _ w12 HD12.out (HF.out _ HD12.out) HQ12.out).mono ?_
    rintro e w13 ⟨AXh, dXh, vh, rfl, hvh, hoh, hb⟩
    have HB13 := Lib.hid (on_ HB12.out hb)
    have HW13 := Lib.hid (on_ HW12.out hb)
    have ka13 := ka12.on hb
    have HMG13 := Lib.hid (HMG12.out.on hb)
    clear HB12 HW12 ka12 HMG12 rka12
    have rka13 := ka13.rule
    clear hb
    have HOH13 := Lib.hid hoh; have HVH := Lib.hid hvh; clear hoh hvh HQ12 HD12
    have hlh : vh.length = ls := (same_len9 (HVH.out.trans HVS.out.symm)).trans HLS.out
    have HLH := Lib.hid hlh
    rw [hlh]
    clear hlh
    have heq13 := eqMsgS_same AXh AXs dXh dXs vh vs (HVS.out.trans HVH.out.symm) w13 HOH13.out.rd ((HOS.out.below HW13.out).more HW13.out.size) (tv_few (HXL.out _ HVH.out))
    rw [HLH.out] at heq13
    have HEQ13 := Lib.hid heq13
    clear heq13
    go_wp2_with fail
    refine (HEQ13.out).mono ?_
    rintro e w14 ⟨rfl, hb⟩
    have HB14 := Lib.hid (on_ HB13.out hb)
    have HW14 := Lib.hid (on_ HW13.out hb)
    have ka14 := ka13.on hb
    have HMG14 := Lib.hid (HMG13.out.on hb)
    have HOH14 := Lib.hid (HOH13.out.on hb)
    clear HB13 HW13 ka13 HMG13 HOH13 rka13
    have rka14 := ka14.rule
    clear hb
    clear HEQ13
    have hhd := heldMS_own M AXg dXg vg w14 HMG14.out (HXL.out _ HVG.out) (HM.out _ HVG.out)
    rw [HLG.out] at hhd
    have HHD := Lib.hid hhd
    clear hhd
    go_wp2_with fail
    refine HHD.out.mono ?_
    rintro e w99 ⟨rfl, h99⟩; obtain rfl := h99
    clear HHD
    go_wp2
    go_ret
    exact ⟨rfl, HB14.out⟩
theorem walk (q : Cq) (a : Int) (b : Int) (w : World) (hL : LensC q) (hr : RdC4 w w.heap.size q) :
    Calls Tryz.prog 4 #[q.agg, .int .i64 a, .int .i64 b] w fun e w' => e = .returned (.bool true) ∧ Below w.heap.size w w' :=
  walk0 q a b (onlM q a b) (fun ht => onlM_few q a b ht) w hL hr (fun _ p W e hf h => (specOnLink_is p a b W h hf).mono fun _ _ k => mr_dat (onlM_dat e a b) (mr_of k)) (fun _ p W e hf h => (implOnLink_is p a b W h hf).mono fun _ _ k => mr_dat (onlM_dat e a b) (mr_of k))

theorem closed : joinedFacts Tryz.prog 4 Tryz.f4 Rows.fnExactOnLinkSpec Rows.fnExactOnLinkRow = true := by
  unfold joinedFacts
  rw [D.make_is, D.enter_is, D.final_is]
  kernel_rfl

set_option maxRecDepth 100000 in
theorem lifted (os : Os) (started : os.Started) (H : Type) (enc : TypeId × Value → H) :
    ReturnsInHanded {} Tryz.checked os 4 .any (Rows.fnExactOnLinkSpec.pre6 enc Tryz.prog Tryz.f4 Rows.fnExactOnLinkRow.domain false) (Rows.fnExactOnLinkSpec.post enc Tryz.prog Tryz.f4 false true false false) := by
  refine returnsInHanded_of_change (C := Tryz.checked) D.own started (by kernel_rfl) Tryz.func4
    (ChangeSpec.witness6 (enc := enc) (C := Tryz.checked) false ⟨#[], #[.agg #[.int .i64 0, .slice none 0 0, .slice none 0 0, .slice none 0 0], .int .i64 0, .int .i64 0], []⟩ 8 (by kernel_rfl) (by kernel_rfl) (by kernel_rfl) (by kernel_rfl)) ?_
  intro W base args ds gs before hval0 hW hcnd _
  have hval : ∀ (j : Nat) t v, Tryz.f4.params[j]? = some t → args[j]? = some v → Value.okWide Tryz.prog W .any base t v := hval0
  have hW' := hW
  obtain ⟨p, q, hA0, hV, rfl, hfz, hnd⟩ := hW
  have hA : DataW.TrodAll enc Tryz.prog W 0 (fun _ => true) true Tryz.f4.params.toList args.toList ds p := hA0
  rw [Tryz.params4] at hA hval
  obtain ⟨v0, v1, v2, d0, d1, d2, p0, p1, p2, rfl, rfl, rfl, h0, h1, h2⟩ := trodAll_three hA
  obtain ⟨a, rfl, rfl, rfl, wa⟩ := open_int Tryz.underlying3 (hval 1 3 v1 rfl rfl) h1
  obtain ⟨b, rfl, rfl, rfl, wb⟩ := open_int Tryz.underlying3 (hval 2 3 v2 rfl rfl) h2
  obtain ⟨cs0, rfl, hsz0⟩ := okWide_struct Tryz.underlying26 (hval 0 26 v0 rfl rfl)
  obtain ⟨fuel0, hf0⟩ := h0
  obtain ⟨z, hcs0, hLz, hrz⟩ := open_cluster hf0
  obtain rfl : cs0 = z.cells := by
    obtain ⟨l⟩ := cs0
    have h : l = z.cells.toList := hcs0
    rw [h]
  refine (walk z a b W hLz hrz).mono fun e W' ⟨he, hb⟩ => ⟨_, he, law_post D.laidOut hW' hb rfl (by kernel_rfl) Tryz.underlying4 (by kernel_rfl) rfl⟩

theorem over : Rows.fnExactOnLinkRow.holds Tryz.pinned (OpenSpec.ofChange Rows.fnExactOnLinkSpec) :=
  OpenClaim.holds_of_wide 4 Tryz.f4 rfl rfl rfl rfl rfl rfl rfl ⟨rfl, rfl, rfl, rfl, rfl⟩ rfl rfl rfl rfl rfl (by kernel_rfl) Tryz.func4 closed
    (of_decide_eq_true (by kernel_rfl)) (by unfold Func.isWrapper; first | (rw [if_pos (by decide +kernel)]; kernel_rfl) | (rw [if_neg (by decide +kernel)]; exact ⟨rfl, rfl⟩))
    (fun os started H enc _ => lifted os started H enc)

theorem proved : Rows.FnExactOnLinkSaid :=
  over
end Go.Proofs.YtfdfjmibjnmhpaaGreat.fnExactOnLink
