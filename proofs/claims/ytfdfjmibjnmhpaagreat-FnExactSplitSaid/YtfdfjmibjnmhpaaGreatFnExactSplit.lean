/-
  Proved here: for whatever cluster and number, Split of the program answers as Split of the model, the argument reads afterwards as before, and the answer owns its memory. No condition.
-/
import Derived.Test.YtfdfjmibjnmhpaaGreatRows
import Derived.Test.YtfdfjmibjnmhpaaGreatDoor
import Derived.Test.YtfdfjmibjnmhpaaGreatCKit
import Derived.Test.YtfdfjmibjnmhpaaGreatWkA
import Derived.Test.YtfdfjmibjnmhpaaGreatCSplit
import Derived.Deep.RegionHeld3
set_option linter.unusedVariables false
set_option maxRecDepth 100000
namespace Go.Proofs.YtfdfjmibjnmhpaaGreat.fnExactSplit
open Go.RowKit Go.ChangeShapes Go.WideShapes Go.Proofs.YtfdfjmibjnmhpaaGreat.B Go.Proofs.YtfdfjmibjnmhpaaGreat.V
theorem dr_ {w : World} {q : Cq} (h : RdC4 w w.heap.size q) : RdC4 w.drew w.drew.heap.size q := h.dr
theorem sh_dr {lo hi : Nat} {a w : World} (h : Sh lo hi a w) (hh : hi ≤ a.heap.size) : Sh lo hi a w.drew := h.on (Below.refl _ _).drew hh
theorem form9 {w : World} {base e size n : Nat} {v : Value} {xs : List Value} (h : w.ownsRow base e size v n xs) : ∃ A c, v = .slice A n c := by
  obtain ⟨_, ⟨rfl, rfl⟩ | ⟨g, cap, cur, rfl, _⟩⟩ := h
  · exact ⟨_, _, rfl⟩
  · exact ⟨_, _, rfl⟩
def NR (xs : List Int) (w : World) (e : Ending) (w' : World) : Prop := ∃ A d, e = .returned (.slice A xs.length d) ∧ OI w' 3 w.heap.size A xs ∧ Below w.heap.size w w'
theorem nr_of {xs : List Int} {w : World} {e : Ending} {w' : World} (h : NRes xs w e w') : NR xs w e w' := by
  obtain ⟨v, e1, ho, hb⟩ := h
  obtain ⟨A, d, rfl⟩ := form9 ho
  exact ⟨A, d, e1, (OI.of_own ho).2, hb⟩
set_option maxHeartbeats 6400000 in
theorem walk0 (q : Cq) (a : Int) (xs : List Int) (hxl0 : FewC q → xs.length ≤ 1048576) (w : World) (hL : LensC q) (hr : RdC4 w w.heap.size q)
    (hsp : FewC q → ∀ (p : Cq) (W : World), p.dat = q.dat → FewC p → RdC4 W W.heap.size p → Calls Tryz.prog 21 #[p.agg, .int .i64 a] W (NRes xs W))
    (him : FewC q → ∀ (p : Cq) (W : World), p.dat = q.dat → FewC p → RdC4 W W.heap.size p → Calls Tryz.prog 22 #[p.agg, .int .i64 a] W (NRes xs W)) :
    Calls Tryz.prog 5 #[q.agg, .int .i64 a] w fun e w' => e = .returned (.bool true) ∧ Below w.heap.size w w' := by
  have hsz := szCluster_any q 1048576 (w.alloc (.cells q.cells 26)) (hr.up (.cells q.cells 26)) hL (by omega) (by omega)
  by_cases hn : (1048576 : Int) < (totC q : Int)
  · rw [if_pos hn] at hsz
    have H1 := Lib.hid hsz
    clear hsp him hsz hr hL hn hxl0
    have hB := up_ (Below.refl w.heap.size w) (.cells q.cells 26)
    have ka := Blk.new w 26 q.cells
    obtain ⟨n, bad, rs, nt, Ab, Ar, An, cb, cr, cn⟩ := q
    simp only [Cq.agg, Cq.cells] at *
    have ra := ka.rule
    go_enter Tryz.func5, Tryz.ntmps5
    go_wp2_with fail
    refine H1.out.mono ?_
    rintro e w1 ⟨rfl, hb1⟩
    have hB1 := on_ hB hb1
    clear ra ka hB hb1
    go_wp2
    go_ret
    exact ⟨rfl, hB1⟩
  · rw [if_neg hn] at hsz
    have hfew : FewC q := fewC_of (by omega)
    have htot : totC q ≤ 1048576 := by omega
    have hxl := hxl0 hfew; clear hxl0
    obtain ⟨y, hy⟩ : ∃ y : Int, 1048576 - (totC q : Int) = y := ⟨_, rfl⟩
    rw [hy] at hsz
    have hy0 : 0 ≤ y := by omega
    have hy1 : ¬ y < 0 := by omega
    have hy2 : y ≤ 1048576 := by omega
    clear hy
    have H1 := Lib.hid hsz; clear hsz hn hL
    have HSP := Lib.hid (hsp hfew); have HIM := Lib.hid (him hfew); clear hsp him
    have HT := Lib.hid (fun (W : World) (h : Below w.heap.size w W) => toCluster_shp q W ((hr.below h).more h.size) hfew)
    have HE := Lib.hid (fun (a b : Cq) (ha : a.dat = q.dat) (hb : b.dat = q.dat) (W : World) (h1 : RdC4 W W.heap.size a) (h2 : RdC4 W W.heap.size b) => eqCluster_same a b (hb.trans ha.symm) W h1 h2 (hfew.same ha))
    have HF := Lib.hid (fun (a : Cq) (ha : a.dat = q.dat) => hfew.same ha)
    have HMK := Lib.hid (fun (lo hi : Nat) (a : Cq) (ha : a.dat = q.dat) (W : World) (hh : hi ≤ W.heap.size) (hS : CSh lo hi W a) => wCluster a 1 W (Sh.refl lo hi W) hh hS (hfew.same ha) (by rw [totC_same ha]; exact htot) (by omega) (by omega))
    have HB0 := Lib.hid (up_ (Below.refl w.heap.size w) (.cells q.cells 26))
    have ka0 := Blk.new w 26 q.cells
    clear hfew hr htot
    have hne : ((1 + (xs.length : Int)) != (1 + (xs.length : Int))) = false := by simp
    have hnq : ∀ i : Bool, (i != i) = false := fun i => by simp
    obtain ⟨V, hV⟩ : ∃ V, q = V := ⟨_, rfl⟩
    obtain ⟨n, bad, rs, nt, Ab, Ar, An, cb, cr, cn⟩ := q
    simp only [Cq.agg, Cq.cells] at *
    have rka0 := ka0.rule
    go_enter Tryz.func5, Tryz.ntmps5
    go_wp2_with fail
    refine (H1.out).mono ?_
    rintro e w1 ⟨rfl, hb⟩
    have HB1 := Lib.hid (on_ HB0.out hb)
    have ka1 := ka0.on hb
    clear HB0 ka0 rka0
    have rka1 := ka1.rule
    clear hb
    clear H1
    go_wp2_with fail
    refine (HT.out w1 HB1.out).mono ?_
    rintro e w2 ⟨⟨n2, bad2, rs2, nt2, Ab2, Ar2, An2, cb2, cr2, cn2⟩, rfl, hd2, hrq2, hb⟩
    have HB2 := Lib.hid (on_ HB1.out hb)
    have ka2 := ka1.on hb
    clear HB1 ka1 rka1
    have rka2 := ka2.rule
    clear hb
    dsimp only
    have HD2 := Lib.hid hd2; have HQ2 := Lib.hid hrq2.1; clear hd2 hrq2
    go_wp2_with fail
    refine (HSP.out _ w2 HD2.out (HF.out _ HD2.out) HQ2.out |>.mono fun _ _ h => nr_of h).mono ?_
    rintro e w3 ⟨AXs, dXs, rfl, hos, hb⟩
    have HB3 := Lib.hid (on_ HB2.out hb)
    have ka3 := ka2.on hb
    clear HB2 ka2 rka2
    have rka3 := ka3.rule
    have hls3 := hos.lt
    have HLS := Lib.hid hls3
    clear hls3
    clear hb
    have HOS3 := Lib.hid hos; clear hos HQ2 HD2
    have hz3 : w.heap.size < w3.heap.size := ka3.lt
    go_wp2_with fail
    refine (HT.out w3 HB3.out).mono ?_
    rintro e w4 ⟨⟨n4, bad4, rs4, nt4, Ab4, Ar4, An4, cb4, cr4, cn4⟩, rfl, hd4, hrq4, hb⟩
    have hz4 : w3.heap.size ≤ w4.heap.size := hb.size
    have HB4 := Lib.hid (on_ HB3.out hb)
    have ka4 := ka3.on hb
    have HOS4 := Lib.hid (HOS3.out.on hb)
    clear HB3 ka3 HOS3 rka3
    have rka4 := ka4.rule
    clear hb
    dsimp only
    have HD4 := Lib.hid hd4; have HQ4 := Lib.hid hrq4.1; have HQS := Lib.hid hrq4.2; clear hd4 hrq4
    have HSH4 := Lib.hid (Sh.refl w3.heap.size w4.heap.size w4)
    go_wp2_with fail
    have kx4b := Blk.new w4 33 #[.int .i64 n4, .slice Ab4 bad4.length cb4, .slice Ar4 rs4.length cr4, .slice An4 nt4.length cn4]
    have HB4b := Lib.hid (up_ HB4.out (.cells #[.int .i64 n4, .slice Ab4 bad4.length cb4, .slice Ar4 rs4.length cr4, .slice An4 nt4.length cn4] 33)); have ka4b := ka4.up (.cells #[.int .i64 n4, .slice Ab4 bad4.length cb4, .slice Ar4 rs4.length cr4, .slice An4 nt4.length cn4] 33); have HOS4b := Lib.hid (HOS4.out.up (.cells #[.int .i64 n4, .slice Ab4 bad4.length cb4, .slice Ar4 rs4.length cr4, .slice An4 nt4.length cn4] 33)); have HSH4b := Lib.hid (HSH4.out.on ((Below.refl _ _).alloc (Nat.le_refl _) (.cells #[.int .i64 n4, .slice Ab4 bad4.length cb4, .slice Ar4 rs4.length cr4, .slice An4 nt4.length cn4] 33)) (Nat.le_refl _)); have HQ4b := Lib.hid (HQ4.out.up (.cells #[.int .i64 n4, .slice Ab4 bad4.length cb4, .slice Ar4 rs4.length cr4, .slice An4 nt4.length cn4] 33))
    clear HB4 ka4 HOS4 HSH4 HQ4 rka4
    refine ((HIM.out _ _ HD4.out (HF.out _ HD4.out) HQ4b.out).mono fun _ _ h => nr_of h).mono ?_
    rintro e w5 ⟨AXg, dXg, rfl, hog, hb⟩
    have HB5 := Lib.hid (on_ HB4b.out hb); have ka5 := ka4b.on hb; have kx5 := kx4b.on hb; have HOS5 := Lib.hid (HOS4b.out.on hb); have HSH5 := Lib.hid (HSH4b.out.on hb (Nat.le_refl _)); have HQ5 := Lib.hid (HQ4b.out.on hb); have HOG5 := Lib.hid hog
    have hlg5 : ∀ g, AXg = some ⟨g, 0, none⟩ → w4.heap.size ≤ g := fun g e => by have := hog.ge g e; simp at this; omega
    have HLG := Lib.hid hlg5
    clear hb hog hlg5 HB4b ka4b kx4b HOS4b HSH4b HQ4b
    have rka5 := ka5.rule; have rkx5 := kx5.rule
    go_wp2_with fail
    refine (eqIntS_same AXg AXs dXg dXs xs w5 HOG5.out.rd HOS5.out.rd (by omega)).mono ?_
    rintro e w6 ⟨rfl, hb⟩
    have HB6 := Lib.hid (on_ HB5.out hb)
    have ka6 := ka5.on hb
    have kx6 := kx5.on hb
    have HOS6 := Lib.hid (HOS5.out.on hb)
    have HSH6 := Lib.hid (HSH5.out.on hb (Nat.le_refl _))
    have HQ6 := Lib.hid (HQ5.out.on hb)
    have HOG6 := Lib.hid (HOG5.out.on hb)
    clear HB5 ka5 kx5 HOS5 HSH5 HQ5 HOG5 rka5 rkx5
    have rka6 := ka6.rule
    have rkx6 := kx6.rule
    clear hb
    go_wp2
    go_region_held3 (fun w' => (∀ i, w'.cell? ⟨w4.heap.size, i, none⟩ = (#[.int .i64 n4, .slice Ab4 bad4.length cb4, .slice Ar4 rs4.length cr4, .slice An4 nt4.length cn4] : Array Value)[i]?) ∧ (∀ i, w'.cell? ⟨w.heap.size, i, none⟩ = (#[.int .i64 n, .slice Ab bad.length cb, .slice Ar rs.length cr, .slice An nt.length cn] : Array Value)[i]?))
      (first | exact ⟨kx8.rule, ka8.rule⟩ | exact ⟨kx7.rule, ka7.rule⟩ | exact ⟨rkx6, rka6⟩)
      (first
        | (go_at_call 9; refine (HT.out _ (by exact HB6.out.drew)).mono ?_; rintro e w7 ⟨⟨n6, bad6, rs6, nt6, Ab6, Ar6, An6, cb6, cr6, cn6⟩, rfl, hd, hrq, hb⟩; have ka7 : Blk w7 _ _ _ := Blk.on (w := w6.drew) ka6 hb; have kx7 : Blk w7 _ _ _ := Blk.on (w := w6.drew) kx6 hb; have HD6 := Lib.hid hd; have HQ6_ := Lib.hid hrq.1; have HQ7 := Lib.hid (RdC4.on (w := w6.drew) (dr_ HQ6.out) hb); have HB7 := Lib.hid (on_ (HB6.out).drew hb); have HOS7 := Lib.hid (OI.on (w := w6.drew) (HOS6.out.on (Below.refl _ _).drew) hb); have HOG7 := Lib.hid (OI.on (w := w6.drew) (HOG6.out.on (Below.refl _ _).drew) hb); have HSH7 := Lib.hid ((sh_dr HSH6.out (Nat.le_refl _)).on hb (Nat.le_refl _)); clear hd hrq hb)
        | (go_at_call 12; refine (HE.out _ _ HD4.out HD6.out _ HQ7.out HQ6_.out).mono ?_; rintro e w8 ⟨rfl, hb⟩; have ka8 : Blk w8 _ _ _ := Blk.on ka7 hb; have kx8 : Blk w8 _ _ _ := Blk.on kx7 hb; have HB8 := Lib.hid (on_ HB7.out hb); have HOS8 := Lib.hid (HOS7.out.on hb); have HOG8 := Lib.hid (HOG7.out.on hb); have HSH8 := Lib.hid (HSH7.out.on hb (Nat.le_refl _)); clear hb))
    clear ka6 kx6 rka6 rkx6 HB6 HOS6 HOG6 HSH6 HQ6 ka7 kx7 HB7 HOS7 HOG7 HSH7 HQ7 HD6 HQ6_
    have rka8 := ka8.rule; have rkx8 := kx8.rule
    have hz8 := HSH8.out.size
    go_wp2_with fail
    refine (HMK.out w3.heap.size w4.heap.size _ HD4.out w8 hz8 (HQS.out.sh HSH8.out)).mono ?_
    rintro e w9 ⟨r9, rfl, hr9, hr9b, hsh⟩
    have HB9 := Lib.hid (HB8.out.trans (hsh.below (Nat.le_of_lt hz3) HB8.out.size))
    have ka9 := ka8.sh hsh (.inl hz3)
    have HOS9 := Lib.hid (HOS8.out.sh hsh (fun g' e => .inl (HLS.out g' e)))
    have HOG9 := Lib.hid (HOG8.out.sh hsh (fun g' e => .inr (HLG.out g' e)))
    clear HB8 ka8 kx8 rka8 rkx8 HOS8 HOG8 HSH8 HQS HMK hsh hr9b
    have hk9 : decide (r9 < 0) = false := decide_eq_false (by omega)
    have rka9 := ka9.rule
    go_wp2_with fail
    refine (eqIntS_same AXg AXs dXg dXs xs w9 HOG9.out.rd HOS9.out.rd (by omega)).mono ?_
    rintro e w10 ⟨rfl, hb⟩
    have HB10 := Lib.hid (on_ HB9.out hb)
    have ka10 := ka9.on hb
    have HOS10 := Lib.hid (HOS9.out.on hb)
    have HOG10 := Lib.hid (HOG9.out.on hb)
    clear HB9 ka9 HOS9 HOG9 rka9
    have rka10 := ka10.rule
    clear hb
    go_wp2_with fail
    refine (mI_grow 1 AXg dXg _ _ xs w10 HOG10.out hxl (by omega) (by omega)).mono ?_
    rintro e w11 ⟨rfl, hmi, row, hrow, hgr⟩
    have HB11 := Lib.hid (Below.own HB10.out hgr (fun g e => by have := HLG.out _ (hrow _ e); omega) (Nat.le_refl _))
    have ka11 := Blk.own ka10 hgr (fun e => by have := HLG.out _ (hrow _ e); omega)
    have HOS11 := Lib.hid (HOS10.out.keep hgr (fun g' e' e => by have a1 := HLS.out g' e'; have a2 := HLG.out _ (hrow _ e); omega))
    have HMI11 := Lib.hid hmi
    clear HB10 ka10 rka10 HOS10 HOG10 hmi hrow hgr
    have rka11 := ka11.rule
    go_wp2_with fail
    refine (heldI_own AXg dXg _ _ xs.length 1 w11 HMI11.out (by omega) (by omega) (by omega)).mono ?_
    rintro e w99 ⟨rfl, h99⟩; obtain rfl := h99
    go_wp2_with fail
    refine (HT.out w11 HB11.out).mono ?_
    rintro e w12 ⟨⟨n12, bad12, rs12, nt12, Ab12, Ar12, An12, cb12, cr12, cn12⟩, rfl, hd12, hrq12, hb⟩
    have HB12 := Lib.hid (on_ HB11.out hb)
    have ka12 := ka11.on hb
    have HOS12 := Lib.hid (HOS11.out.on hb)
    have HMI12 := Lib.hid (HMI11.out.on hb)
    clear HB11 ka11 HOS11 HMI11 rka11
    have rka12 := ka12.rule
    clear hb
    dsimp only
    have HD12 := Lib.hid hd12; have HQ12 := Lib.hid hrq12.1; clear hd12 hrq12
    go_wp2_with fail
    refine (HIM.out _ w12 HD12.out (HF.out _ HD12.out) HQ12.out |>.mono fun _ _ h => nr_of h).mono ?_
    rintro e w13 ⟨AXh, dXh, rfl, hoh, hb⟩
    have HB13 := Lib.hid (on_ HB12.out hb)
    have ka13 := ka12.on hb
    have HOS13 := Lib.hid (HOS12.out.on hb)
    have HMI13 := Lib.hid (HMI12.out.on hb)
    clear HB12 ka12 HOS12 HMI12 rka12
    have rka13 := ka13.rule
    clear hb
    have HOH13 := Lib.hid hoh; clear hoh HQ12 HD12
    go_wp2_with fail
    refine (eqIntS_same AXh AXs dXh dXs xs w13 HOH13.out.rd HOS13.out.rd (by omega)).mono ?_
    rintro e w14 ⟨rfl, hb⟩
    have HB14 := Lib.hid (on_ HB13.out hb)
    have ka14 := ka13.on hb
    have HOS14 := Lib.hid (HOS13.out.on hb)
    have HMI14 := Lib.hid (HMI13.out.on hb)
    have HOH14 := Lib.hid (HOH13.out.on hb)
    clear HB13 ka13 HOS13 HMI13 HOH13 rka13
    have rka14 := ka14.rule
    clear hb
    go_wp2_with fail
    refine (heldI_own AXg dXg _ _ xs.length 1 w14 HMI14.out (by omega) (by omega) (by omega)).mono ?_
    rintro e w99 ⟨rfl, h99⟩; obtain rfl := h99
    go_wp2
    go_ret
    exact ⟨rfl, HB14.out⟩
theorem walk (q : Cq) (a : Int) (w : World) (hL : LensC q) (hr : RdC4 w w.heap.size q) :
    Calls Tryz.prog 5 #[q.agg, .int .i64 a] w fun e w' => e = .returned (.bool true) ∧ Below w.heap.size w w' :=
  walk0 q a _ (fun _ => splC_small q a) w hL hr ((fun _ p W e hf h => by have := specSplit_is p a W h hf; rwa [e] at this)) ((fun _ p W e hf h => by have := implSplit_is p a W h hf; rwa [e] at this))

theorem closed : joinedFacts Tryz.prog 5 Tryz.f5 Rows.fnExactSplitSpec Rows.fnExactSplitRow = true := by
  unfold joinedFacts
  rw [D.make_is, D.enter_is, D.final_is]
  kernel_rfl

set_option maxRecDepth 100000 in
theorem lifted (os : Os) (started : os.Started) (H : Type) (enc : TypeId × Value → H) :
    ReturnsInHanded {} Tryz.checked os 5 .any (Rows.fnExactSplitSpec.pre6 enc Tryz.prog Tryz.f5 Rows.fnExactSplitRow.domain false) (Rows.fnExactSplitSpec.post enc Tryz.prog Tryz.f5 false true false false) := by
  refine returnsInHanded_of_change (C := Tryz.checked) D.own started (by kernel_rfl) Tryz.func5
    (ChangeSpec.witness6 (enc := enc) (C := Tryz.checked) false ⟨#[], #[.agg #[.int .i64 0, .slice none 0 0, .slice none 0 0, .slice none 0 0], .int .i64 0], []⟩ 8 (by kernel_rfl) (by kernel_rfl) (by kernel_rfl) (by kernel_rfl)) ?_
  intro W base args ds gs before hval0 hW hcnd _
  have hval : ∀ (j : Nat) t v, Tryz.f5.params[j]? = some t → args[j]? = some v → Value.okWide Tryz.prog W .any base t v := hval0
  have hW' := hW
  obtain ⟨p, q, hA0, hV, rfl, hfz, hnd⟩ := hW
  have hA : DataW.TrodAll enc Tryz.prog W 0 (fun _ => true) true Tryz.f5.params.toList args.toList ds p := hA0
  rw [Tryz.params5] at hA hval
  obtain ⟨v0, v1, d0, d1, p0, p1, rfl, rfl, rfl, h0, h1⟩ := trodAll_two hA
  obtain ⟨a, rfl, rfl, rfl, wa⟩ := open_int Tryz.underlying3 (hval 1 3 v1 rfl rfl) h1
  obtain ⟨cs0, rfl, hsz0⟩ := okWide_struct Tryz.underlying26 (hval 0 26 v0 rfl rfl)
  obtain ⟨fuel0, hf0⟩ := h0
  obtain ⟨z, hcs0, hLz, hrz⟩ := open_cluster hf0
  obtain rfl : cs0 = z.cells := by
    obtain ⟨l⟩ := cs0
    have h : l = z.cells.toList := hcs0
    rw [h]
  refine (walk z a W hLz hrz).mono fun e W' ⟨he, hb⟩ => ⟨_, he, law_post D.laidOut hW' hb rfl (by kernel_rfl) Tryz.underlying4 (by kernel_rfl) rfl⟩

theorem over : Rows.fnExactSplitRow.holds Tryz.pinned (OpenSpec.ofChange Rows.fnExactSplitSpec) :=
  OpenClaim.holds_of_wide 5 Tryz.f5 rfl rfl rfl rfl rfl rfl rfl ⟨rfl, rfl, rfl, rfl, rfl⟩ rfl rfl rfl rfl rfl (by kernel_rfl) Tryz.func5 closed
    (of_decide_eq_true (by kernel_rfl)) (by unfold Func.isWrapper; first | (rw [if_pos (by decide +kernel)]; kernel_rfl) | (rw [if_neg (by decide +kernel)]; exact ⟨rfl, rfl⟩))
    (fun os started H enc _ => lifted os started H enc)

theorem proved : Rows.FnExactSplitSaid :=
  over
end Go.Proofs.YtfdfjmibjnmhpaaGreat.fnExactSplit
