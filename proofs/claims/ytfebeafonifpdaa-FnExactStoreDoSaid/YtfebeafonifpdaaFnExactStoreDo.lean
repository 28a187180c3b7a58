/-
  Proved here: for whatever store and command, StoreDo of the program answers as StoreDo of the model; the store reads afterwards as before, and the answer owns its memory. No condition.
-/
import Derived.Test.YtfebeafonifpdaaRows
import Derived.Test.YtfebeafonifpdaaDoor
import Derived.Test.YtfebeafonifpdaaStL
import Derived.Test.YtfebeafonifpdaaStDo
import Derived.Deep.RegionHeld3
import Derived.Deep.CutRange
set_option linter.unusedVariables false
set_option maxRecDepth 100000
namespace Go.Proofs.Ytfebeafonifpdaa.fnExactStoreDo
open Go.RowKit Go.ChangeShapes Go.WideShapes Go.Proofs.Ytfebeafonifpdaa.B Go.Proofs.Ytfebeafonifpdaa.V

set_option maxHeartbeats 3200000 in
theorem walk0 (A : Option Addr) (c : Nat) (vs us : List Int) (k m va vb vc : Int) (r0 : Int) (w : World) (hm : vs.length ≤ maxLen) (hul : us.length ≤ 1048576) (hr : RdI w w.heap.size A vs)
    (hsp : (vs.length ≤ 1048576 → ∀ (g : Nat) (W : World), RdI W W.heap.size (some ⟨g, 0, none⟩) vs → Calls Try.prog 46 #[.agg #[.slice (some ⟨g, 0, none⟩) vs.length vs.length, .int .i64 k], .agg #[.int .i64 va, .int .i64 vb, .int .i64 vc]] W (SG us m (.int .i64 r0) W)))
    (him : (vs.length ≤ 1048576 → ∀ (g : Nat) (W : World), RdI W W.heap.size (some ⟨g, 0, none⟩) vs → Calls Try.prog 26 #[.agg #[.slice (some ⟨g, 0, none⟩) vs.length vs.length, .int .i64 k], .agg #[.int .i64 va, .int .i64 vb, .int .i64 vc]] W (SG us m (.int .i64 r0) W))) :
    Calls Try.prog 12 #[.agg #[.slice A vs.length c, .int .i64 k], .agg #[.int .i64 va, .int .i64 vb, .int .i64 vc]] w fun e w' => e = .returned (.bool true) ∧ Below w.heap.size w w' := by
  by_cases hn : (1048576 : Int) < vs.length
  · go_enter Try.func12, Try.ntmps12
    go_wp2_with fail
    refine (szStore_big A vs.length c k _ _ hm (by omega) (by omega) hn).mono ?_
    rintro e w1 ⟨rfl, hb1⟩
    go_wp2
    go_ret
    exact ⟨rfl, on_ (up_ (up_ (Below.refl _ _) _) _) hb1⟩
  · have hn' : vs.length ≤ 1048576 := by omega
    have HSP := Lib.hid (hsp hn'); clear hsp
    have HIM := Lib.hid (him hn'); clear him
    have hnq : (r0 != r0) = false := by simp
    have hkm := (Blk.new w 62 #[.slice A vs.length c, .int .i64 k]).alloc (.cells #[.int .i64 va, .int .i64 vb, .int .i64 vc] 56)
    have hkv := Blk.new (w.alloc (.cells #[.slice A vs.length c, .int .i64 k] 62)) 56 #[.int .i64 va, .int .i64 vb, .int .i64 vc]
    simp only [World.size_alloc] at hkv
    have hr0 := (hr.up (.cells #[.slice A vs.length c, .int .i64 k] 62)).up (.cells #[.int .i64 va, .int .i64 vb, .int .i64 vc] 56)
    have HR0 := Lib.hid hr
    have hsz0 := szStore_small A vs.length c k 1048576 ((w.alloc (.cells #[.slice A vs.length c, .int .i64 k] 62)).alloc (.cells #[.int .i64 va, .int .i64 vb, .int .i64 vc] 56)) hm (by omega) (by omega) (by omega)
    have HSZ := Lib.hid hsz0; clear hsz0 hr hm
    go_enter Try.func12, Try.ntmps12
    go_wp2_with fail
    refine HSZ.out.mono ?_
    rintro e w1 ⟨rfl, hb1⟩
    have km1 := hkm.on hb1
    have kv1 := hkv.on hb1
    have or1 := RdI.on hr0 hb1
    have hB1 := on_ (up_ (up_ (Below.refl w.heap.size w) _) _) hb1
    clear hkm hkv hr0 hb1 HSZ
    have rm1 := km1.rule
    have zm1 := km1.lt
    have rv1 := kv1.rule
    have zv1 := kv1.lt
    have hsv1 := zv1
    go_wp2_with fail
    go_cut [6, 7] from 21 to 28 (fun s6 s7 wx => Made w1 us m (.int .i64 r0) s6 s7 wx)
    case first =>
      rename_i J_ K_ hJ_ hK_
      go_region_held3 (fun w' => (∀ i, w'.cell? ⟨w.heap.size, i, none⟩ = (#[.slice A vs.length c, .int .i64 k] : Array Value)[i]?) ∧ (∀ i, w'.cell? ⟨w.heap.size + 1, i, none⟩ = (#[.int .i64 va, .int .i64 vb, .int .i64 vc] : Array Value)[i]?))
        (first | with_reducible exact ⟨(Blk.on km1 hBd).rule, (Blk.on kv1 hBd).rule⟩ | with_reducible exact ⟨(Blk.alloc (Blk.on km1 hBd) _).rule, (Blk.alloc (Blk.on kv1 hBd) _).rule⟩ | with_reducible exact ⟨(Blk.on km1 hBb).rule, (Blk.on kv1 hBb).rule⟩ | with_reducible exact ⟨(Blk.alloc (Blk.on km1 hBb) _).rule, (Blk.alloc (Blk.on kv1 hBb) _).rule⟩ | with_reducible exact ⟨(Blk.on km1 hBa).rule, (Blk.on kv1 hBa).rule⟩ | with_reducible exact ⟨(Blk.alloc (Blk.on km1 hBa) _).rule, (Blk.alloc (Blk.on kv1 hBa) _).rule⟩ | with_reducible exact ⟨(Blk.dr km1).rule, (Blk.dr kv1).rule⟩ | with_reducible exact ⟨(Blk.dr (Blk.alloc km1 _)).rule, (Blk.dr (Blk.alloc kv1 _)).rule⟩ | with_reducible exact ⟨rm1, rv1⟩ | with_reducible exact ⟨(Blk.alloc km1 _).rule, (Blk.alloc kv1 _).rule⟩ | with_reducible exact ⟨(Blk.six (Blk.on km1 hBd) (by omega) _ _).rule, (Blk.six (Blk.on kv1 hBd) (by omega) _ _).rule⟩)
        (first
          | (go_at_call 45; refine (toStore_any A c vs k _ (by first | with_reducible exact RdI.dr or1 | with_reducible exact RdI.dr (RdI.up or1 _)) hn').mono ?_; rintro e wa ⟨ga, csa, rfl, hga, hqa, hpa, hba⟩; have hBa : Below w1.heap.size w1 wa := (by first | with_reducible exact on_ (Below.refl _ _).drew hba | with_reducible exact on_ (up_ (Below.refl _ _) _).drew hba); have hsza := hBa.size; have hsa : RdI wa wa.heap.size _ vs := hpa.rd hqa hqa.lt)
          | (go_at_call 36; refine (toCmd_any va vb vc _).mono ?_; rintro e wb ⟨rfl, hbb⟩; have hBb : Below w1.heap.size w1 wb := (by first | with_reducible exact on_ hBa hbb | with_reducible exact on_ (up_ hBa _) hbb); have hszb := hBb.size; have hsb : RdI wb wb.heap.size _ vs := (by first | with_reducible exact RdI.on hsa hbb | with_reducible exact RdI.on (RdI.up hsa _) hbb))
          | (go_at_call 46; refine (HSP.out _ _ (by first | with_reducible exact hsb | with_reducible exact RdI.up hsb _)).mono ?_; rintro e wd ⟨Bd, dd, rfl, hod, hbd⟩; have hBd : Below w1.heap.size w1 wd := (by first | with_reducible exact on_ hBb hbd | with_reducible exact on_ (up_ hBb _) hbd); have hszd := hBd.size; first | (have hz0 := (by with_reducible exact (Blk.on (Blk.new wb 36 #[.slice none 0 0, .int .i64 0]) hbd)); have hz1 : wb.heap.size < wd.heap.size := hz0.lt; have hzb : wb.heap.size + 1 ≤ (wb.alloc (.cells #[.slice none 0 0, .int .i64 0] 36)).heap.size := (by have := (Blk.new wb 36 #[.slice none 0 0, .int .i64 0]).lt; simp <;> omega); have rz0 := hz0.rule; have fz0 := fun i => hz0.frozen i) | (have hz0 := (by with_reducible exact (Blk.on (Blk.on (Blk.new wa 36 #[.slice none 0 0, .int .i64 0]) hbb) hbd)); have hz1 : wa.heap.size < wd.heap.size := hz0.lt; have hzb : wa.heap.size + 1 ≤ wb.heap.size := (by have := (Blk.on (Blk.new wa 36 #[.slice none 0 0, .int .i64 0]) hbb).lt; simp <;> omega); have rz0 := hz0.rule; have fz0 := fun i => hz0.frozen i) | (have hz0 := (by with_reducible exact (Blk.on (Blk.on (Blk.on (Blk.dr (Blk.new w1 36 #[.slice none 0 0, .int .i64 0])) hba) hbb) hbd)); have hz1 : w1.heap.size < wd.heap.size := hz0.lt; have hzb : w1.heap.size + 1 ≤ wb.heap.size := (by have := (Blk.on (Blk.on (Blk.dr (Blk.new w1 36 #[.slice none 0 0, .int .i64 0])) hba) hbb).lt; simp <;> omega); have rz0 := hz0.rule; have fz0 := fun i => hz0.frozen i) | skip))
      all_goals (refine hK_ _ _ (Met.intro (hJ_ _ _ ?_)); (repeat apply Exists.intro); refine ⟨?_, rfl⟩)
      all_goals first
        | (with_reducible refine made_early hz0 ?_ hBd hod hzb ?_) <;> omega
        | (with_reducible refine made_late hBd hod ?_) <;> first | exact hszb | (simp <;> omega)
    case rest =>
    revert wc
    intro w2 hcut
    obtain ⟨ps, B2, d2, rfl, rfl, ks2, ow2, hne2, hge2, hb2⟩ := hcut
    have km2 : Blk w2 _ _ _ := Blk.on km1 hb2
    have kv2 : Blk w2 _ _ _ := Blk.on kv1 hb2
    have or2 := RdI.on or1 hb2
    have hB2 := on_ hB1 hb2
    have hsz2 := hb2.size
    clear rm1 zm1 rv1 zv1
    clear km1 kv1 or1 hB1
    clear hb2
    have rm2 := km2.rule
    have zm2 := km2.lt
    have rv2 := kv2.rule
    have zv2 := kv2.lt
    have rs2 := ks2.rule
    have zs2 := ks2.lt
    have hl2 := ow2.lt
    have hps2 := zs2
    go_wp2_with fail
    refine (toStore_any A c vs k _ or2 hn').mono ?_
    rintro e w3 ⟨g3, cs3, rfl, hg3, hq3, hp3, hb3⟩
    have km3 : Blk w3 _ _ _ := Blk.on km2 hb3
    have kv3 : Blk w3 _ _ _ := Blk.on kv2 hb3
    have ks3 : Blk w3 _ _ _ := Blk.on ks2 hb3
    have or3 := RdI.on or2 hb3
    have ow3 := OI.on ow2 hb3
    have hB3 := on_ hB2 hb3
    clear rm2 zm2 rv2 zv2 rs2 zs2
    clear km2 kv2 ks2 or2 ow2 hB2
    have ox3 := hp3.rd hq3 hq3.lt
    have op3 := hq3
    clear hb3
    have rm3 := km3.rule
    have zm3 := km3.lt
    have rv3 := kv3.rule
    have zv3 := kv3.lt
    have rs3 := ks3.rule
    have zs3 := ks3.lt
    have hzp3 := op3.lt
    have HPC := Lib.hid (show vs.length ≤ cs3.size by have := hp3.1; omega)
    clear hp3 hq3
    have kx4 := Blk.new w3 36 #[.slice (some ⟨g3, 0, none⟩) vs.length vs.length, .int .i64 k]
    have km4 := Blk.alloc km3 (.cells #[.slice (some ⟨g3, 0, none⟩) vs.length vs.length, .int .i64 k] 36)
    have kv4 := Blk.alloc kv3 (.cells #[.slice (some ⟨g3, 0, none⟩) vs.length vs.length, .int .i64 k] 36)
    have ks4 := Blk.alloc ks3 (.cells #[.slice (some ⟨g3, 0, none⟩) vs.length vs.length, .int .i64 k] 36)
    have or4 := RdI.up or3 (.cells #[.slice (some ⟨g3, 0, none⟩) vs.length vs.length, .int .i64 k] 36)
    have ow4 := OI.up ow3 (.cells #[.slice (some ⟨g3, 0, none⟩) vs.length vs.length, .int .i64 k] 36)
    have ox4 := RdI.up ox3 (.cells #[.slice (some ⟨g3, 0, none⟩) vs.length vs.length, .int .i64 k] 36)
    have op4 := Blk.up op3 (.cells #[.slice (some ⟨g3, 0, none⟩) vs.length vs.length, .int .i64 k] 36)
    have hB4 := up_ hB3 (.cells #[.slice (some ⟨g3, 0, none⟩) vs.length vs.length, .int .i64 k] 36)
    have hsz4 : (w3.alloc (.cells #[.slice (some ⟨g3, 0, none⟩) vs.length vs.length, .int .i64 k] 36)).heap.size = w3.heap.size + 1 := World.size_alloc _ _
    clear km3 kv3 ks3 or3 ow3 ox3 op3 hB3
    clear rm3 zm3 rv3 zv3 rs3 zs3
    go_wp2_with fail
    generalize w3.alloc (.cells #[.slice (some ⟨g3, 0, none⟩) vs.length vs.length, .int .i64 k] 36) = w4 at *
    have rm4 := km4.rule
    have zm4 := km4.lt
    have rv4 := kv4.rule
    have zv4 := kv4.lt
    have rs4 := ks4.rule
    have zs4 := ks4.lt
    have rx4 := kx4.rule
    have zx4 := kx4.lt
    have HS4 := Lib.hid hsz4
    have hlt4 : w3.heap.size < w4.heap.size := zx4
    clear hsz4
    go_cut [9, 10] from 31 to 37 (fun s6 s7 wx => Made w4 us m (.int .i64 r0) s6 s7 wx)
    case first =>
      rename_i J_ K_ hJ_ hK_
      go_region_held3 (fun w' => (∀ i, w'.cell? ⟨w3.heap.size, i, none⟩ = (#[.slice (some ⟨g3, 0, none⟩) vs.length vs.length, .int .i64 k] : Array Value)[i]?) ∧ (∀ i, w'.cell? ⟨w.heap.size + 1, i, none⟩ = (#[.int .i64 va, .int .i64 vb, .int .i64 vc] : Array Value)[i]?))
        (first | with_reducible exact ⟨(Blk.on kx4 hBb).rule, (Blk.on kv4 hBb).rule⟩ | with_reducible exact ⟨(Blk.alloc (Blk.on kx4 hBb) _).rule, (Blk.alloc (Blk.on kv4 hBb) _).rule⟩ | with_reducible exact ⟨(Blk.on kx4 hBa).rule, (Blk.on kv4 hBa).rule⟩ | with_reducible exact ⟨(Blk.alloc (Blk.on kx4 hBa) _).rule, (Blk.alloc (Blk.on kv4 hBa) _).rule⟩ | with_reducible exact ⟨(Blk.dr kx4).rule, (Blk.dr kv4).rule⟩ | with_reducible exact ⟨(Blk.dr (Blk.alloc kx4 _)).rule, (Blk.dr (Blk.alloc kv4 _)).rule⟩ | with_reducible exact ⟨rx4, rv4⟩ | with_reducible exact ⟨(Blk.alloc kx4 _).rule, (Blk.alloc kv4 _).rule⟩ | with_reducible exact ⟨(Blk.six (Blk.on kx4 hBb) (by omega) _ _).rule, (Blk.six (Blk.on kv4 hBb) (by omega) _ _).rule⟩)
        (first
          | (go_at_call 36; refine (toCmd_any va vb vc _).mono ?_; rintro e wa ⟨rfl, hba⟩; have hBa : Below w4.heap.size w4 wa := (by first | with_reducible exact on_ (Below.refl _ _).drew hba | with_reducible exact on_ (up_ (Below.refl _ _) _).drew hba); have hsza := hBa.size; have hsa : RdI wa wa.heap.size _ vs := (by first | with_reducible exact RdI.on (RdI.dr ox4) hba | with_reducible exact RdI.on (RdI.dr (RdI.up ox4 _)) hba))
          | (go_at_call 26; refine (HIM.out _ _ (by first | with_reducible exact hsa | with_reducible exact RdI.up hsa _)).mono ?_; rintro e wb ⟨Bd, dd, rfl, hod, hbb⟩; have hBb : Below w4.heap.size w4 wb := (by first | with_reducible exact on_ hBa hbb | with_reducible exact on_ (up_ hBa _) hbb); have hszb := hBb.size; first | (have hz0 := (by with_reducible exact (Blk.on (Blk.new wa 36 #[.slice none 0 0, .int .i64 0]) hbb)); have hz1 : wa.heap.size < wb.heap.size := hz0.lt; have hzb : wa.heap.size + 1 ≤ (wa.alloc (.cells #[.slice none 0 0, .int .i64 0] 36)).heap.size := (by have := (Blk.new wa 36 #[.slice none 0 0, .int .i64 0]).lt; simp <;> omega); have rz0 := hz0.rule; have fz0 := fun i => hz0.frozen i) | (have hz0 := (by with_reducible exact (Blk.on (Blk.on (Blk.dr (Blk.new w4 36 #[.slice none 0 0, .int .i64 0])) hba) hbb)); have hz1 : w4.heap.size < wb.heap.size := hz0.lt; have hzb : w4.heap.size + 1 ≤ wa.heap.size := (by have := (Blk.on (Blk.dr (Blk.new w4 36 #[.slice none 0 0, .int .i64 0])) hba).lt; simp <;> omega); have rz0 := hz0.rule; have fz0 := fun i => hz0.frozen i) | skip))
      all_goals (refine hK_ _ _ (Met.intro (hJ_ _ _ ?_)); (repeat apply Exists.intro); refine ⟨?_, rfl⟩)
      all_goals first
        | (with_reducible refine made_early hz0 ?_ hBb hod hzb ?_) <;> omega
        | (with_reducible refine made_late hBb hod ?_) <;> first | exact hsza | (simp <;> omega)
    case rest =>
    revert wc
    intro w5 hcut
    obtain ⟨pg, B5, d5, rfl, rfl, kg5, og5, hne5, hge5, hb5⟩ := hcut
    have km5 : Blk w5 _ _ _ := Blk.on km4 hb5
    have kv5 : Blk w5 _ _ _ := Blk.on kv4 hb5
    have ks5 : Blk w5 _ _ _ := Blk.on ks4 hb5
    have kx5 : Blk w5 _ _ _ := Blk.on kx4 hb5
    have or5 := RdI.on or4 hb5
    have ow5 := OI.on ow4 hb5
    have ox5 := RdI.on ox4 hb5
    have op5 := Blk.on op4 hb5
    have hB5 := on_ hB4 hb5
    have hsz5 := hb5.size
    clear rm4 zm4 rv4 zv4 rs4 zs4 rx4 zx4
    clear km4 kv4 ks4 kx4 or4 ow4 ox4 op4 hB4
    clear hb5
    have rm5 := km5.rule
    have zm5 := km5.lt
    have rv5 := kv5.rule
    have zv5 := kv5.lt
    have rs5 := ks5.rule
    have zs5 := ks5.lt
    have rx5 := kx5.rule
    have zx5 := kx5.lt
    have rg5 := kg5.rule
    have zg5 := kg5.lt
    have hog5 := og5.ge
    have hpg5 := zg5
    go_wp2_with fail
    refine (eqStore_same _ _ _ _ us m _ (by exact og5.rd) (by exact ow5.rd) hul).mono ?_
    rintro e w6 ⟨rfl, hb6⟩
    have km6 : Blk w6 _ _ _ := Blk.on km5 hb6
    have kv6 : Blk w6 _ _ _ := Blk.on kv5 hb6
    have ks6 : Blk w6 _ _ _ := Blk.on ks5 hb6
    have kx6 : Blk w6 _ _ _ := Blk.on kx5 hb6
    have kg6 : Blk w6 _ _ _ := Blk.on kg5 hb6
    have or6 := RdI.on or5 hb6
    have ow6 := OI.on ow5 hb6
    have ox6 := RdI.on ox5 hb6
    have op6 := Blk.on op5 hb6
    have og6 := OI.on og5 hb6
    have hB6 := on_ hB5 hb6
    clear rm5 zm5 rv5 zv5 rs5 zs5 rx5 zx5 rg5 zg5
    clear km5 kv5 ks5 kx5 kg5 or5 ow5 ox5 op5 og5 hB5
    clear hb6
    have rm6 := km6.rule
    have zm6 := km6.lt
    have rv6 := kv6.rule
    have zv6 := kv6.lt
    have rs6 := ks6.rule
    have zs6 := ks6.lt
    have rx6 := kx6.rule
    have zx6 := kx6.lt
    have rg6 := kg6.rule
    have zg6 := kg6.lt
    go_wp2
    go_region_held3 (fun w' => (∀ i, w'.cell? ⟨w3.heap.size, i, none⟩ = (#[.slice (some ⟨g3, 0, none⟩) vs.length vs.length, .int .i64 k] : Array Value)[i]?) ∧ (∀ i, w'.cell? ⟨w.heap.size, i, none⟩ = (#[.slice A vs.length c, .int .i64 k] : Array Value)[i]?))
      (first | exact ⟨kx8.rule, km8.rule⟩ | exact ⟨kx7.rule, km7.rule⟩ | exact ⟨rx6, rm6⟩)
      (first
        | (go_at_call 45; refine (toStore_any A c vs k _ (by exact or6) hn').mono ?_; rintro e w7 ⟨g7, cs7, rfl, hg7, hq7, hp7, hb7⟩; have km7 : Blk w7 _ _ _ := Blk.on (w := w6.drew) km6 hb7; have kv7 : Blk w7 _ _ _ := Blk.on (w := w6.drew) kv6 hb7; have ks7 : Blk w7 _ _ _ := Blk.on (w := w6.drew) ks6 hb7; have kx7 : Blk w7 _ _ _ := Blk.on (w := w6.drew) kx6 hb7; have kg7 : Blk w7 _ _ _ := Blk.on (w := w6.drew) kg6 hb7; have or7 := RdI.on (w := w6.drew) or6 hb7; have ow7 := OI.on (w := w6.drew) ow6 hb7; have ox7 := RdI.on (w := w6.drew) ox6 hb7; have op7 := Blk.on (w := w6.drew) op6 hb7; have og7 := OI.on (w := w6.drew) og6 hb7; have hB7 := on_ (hB6).drew hb7; have ot7 := hp7.rd hq7 hq7.lt)
        | (go_at_call 41; refine (eqStore_same _ _ _ _ vs k _ (by exact ox7) (by exact ot7) hn').mono ?_; rintro e w8 ⟨rfl, hb8⟩; have km8 : Blk w8 _ _ _ := Blk.on km7 hb8; have kv8 : Blk w8 _ _ _ := Blk.on kv7 hb8; have ks8 : Blk w8 _ _ _ := Blk.on ks7 hb8; have kx8 : Blk w8 _ _ _ := Blk.on kx7 hb8; have kg8 : Blk w8 _ _ _ := Blk.on kg7 hb8; have or8 := RdI.on or7 hb8; have ow8 := OI.on ow7 hb8; have ox8 := RdI.on ox7 hb8; have op8 := Blk.on op7 hb8; have og8 := OI.on og7 hb8; have ot8 := RdI.on ot7 hb8; have hB8 := on_ hB7 hb8))
    clear rm6 zm6 rv6 zv6 rs6 zs6 rx6 zx6 rg6 zg6
    clear km6 kv6 ks6 kx6 kg6 or6 ow6 ox6 op6 og6 hB6 km7 kv7 ks7 kx7 kg7 or7 ow7 ox7 op7 og7 ot7 hB7 hb7 hb8
    have rm8 := km8.rule
    have zm8 := km8.lt
    have rv8 := kv8.rule
    have zv8 := kv8.lt
    have rs8 := ks8.rule
    have zs8 := ks8.lt
    have rx8 := kx8.rule
    have zx8 := kx8.lt
    have rg8 := kg8.rule
    have zg8 := kg8.lt
    clear ot8 ox8
    go_wp2_with fail
    refine (markStore_any 1 g3 vs.length vs.length _ cs3 _ _ op8 HPC.out hn' (by omega) (by omega)).mono ?_
    rintro e w9 ⟨rfl, ds9, hd9, hsd9, hmk9, hgr9⟩
    have km9 := keep_ km8 hgr9 (by simp; omega)
    have kv9 := keep_ kv8 hgr9 (by simp; omega)
    have ks9 := keep_ ks8 hgr9 (by simp; omega)
    have kg9 := keep_ kg8 hgr9 (by simp; omega)
    have ow9 := OI.keep ow8 hgr9 (fun g' e' => by have := hl2 g' e'; simp; omega)
    have og9 := OI.keep og8 hgr9 (fun g' e' => by have := hog5 g' e'; simp; omega)
    have hB9 := hB8.trans (keepB hgr9 (fun g e => by injection e with e; omega) hB8.size)
    have or9 : RdI w9 w9.heap.size A vs := (HR0.out.below hB9).more hB9.size
    have hsz9 := hgr9.size
    clear rm8 zm8 rv8 zv8 rs8 zs8 rx8 zx8 rg8 zg8
    clear km8 kv8 ks8 kx8 kg8 or8 ow8 op8 og8 hB8
    have rm9 := km9.rule
    have zm9 := km9.lt
    have rv9 := kv9.rule
    have zv9 := kv9.lt
    have rs9 := ks9.rule
    have zs9 := ks9.lt
    have rg9 := kg9.rule
    have zg9 := kg9.lt
    clear hd9 hsd9 hmk9 hgr9
    go_wp2_with fail
    refine (eqStore_same _ _ _ _ us m _ (by exact og9.rd) (by exact ow9.rd) hul).mono ?_
    rintro e w10 ⟨rfl, hb10⟩
    have km10 : Blk w10 _ _ _ := Blk.on km9 hb10
    have kv10 : Blk w10 _ _ _ := Blk.on kv9 hb10
    have ks10 : Blk w10 _ _ _ := Blk.on ks9 hb10
    have kg10 : Blk w10 _ _ _ := Blk.on kg9 hb10
    have or10 := RdI.on or9 hb10
    have ow10 := OI.on ow9 hb10
    have og10 := OI.on og9 hb10
    have hB10 := on_ hB9 hb10
    clear rm9 zm9 rv9 zv9 rs9 zs9 rg9 zg9
    clear km9 kv9 ks9 kg9 or9 ow9 og9 hB9
    clear hb10
    have rm10 := km10.rule
    have zm10 := km10.lt
    have rv10 := kv10.rule
    have zv10 := kv10.lt
    have rs10 := ks10.rule
    have zs10 := ks10.lt
    have rg10 := kg10.rule
    have zg10 := kg10.lt
    go_wp2_with fail
    refine (markStore_grow 1 B5 d5 _ _ us _ _ og10 hul (by omega) (by omega)).mono ?_
    rintro e w11 ⟨rfl, og11, row11, hrow11, hgr11⟩
    have km11 := keep_ km10 hgr11 (fun e => by have := hog5 _ (hrow11 _ e); omega)
    have kv11 := keep_ kv10 hgr11 (fun e => by have := hog5 _ (hrow11 _ e); omega)
    have ks11 := keep_ ks10 hgr11 (fun e => by have := hog5 _ (hrow11 _ e); omega)
    have kg11 := keep_ kg10 hgr11 (fun e => hne5 _ (hrow11 _ e) rfl)
    have ow11 := OI.keep ow10 hgr11 (fun g' e' e => by have := hl2 g' e'; have := hog5 _ (hrow11 _ e); omega)
    have hB11 := hB10.trans (keepB hgr11 (fun g e => by have := hog5 _ (hrow11 _ e); omega) hB10.size)
    have or11 : RdI w11 w11.heap.size A vs := (HR0.out.below hB11).more hB11.size
    have hsz11 := hgr11.size
    clear rm10 zm10 rv10 zv10 rs10 zs10 rg10 zg10
    clear km10 kv10 ks10 kg10 or10 ow10 og10 hB10
    have rm11 := km11.rule
    have zm11 := km11.lt
    have rv11 := kv11.rule
    have zv11 := kv11.lt
    have rs11 := ks11.rule
    have zs11 := ks11.lt
    have rg11 := kg11.rule
    have zg11 := kg11.lt
    clear hgr11 hrow11
    go_wp2_with fail
    refine (heldStore_own 1 B5 d5 _ _ us.length _ _ og11 hul (by omega) (by omega)).mono ?_
    rintro e w12 ⟨rfl, hb12⟩
    have km12 : Blk w12 _ _ _ := Blk.on km11 hb12
    have kv12 : Blk w12 _ _ _ := Blk.on kv11 hb12
    have ks12 : Blk w12 _ _ _ := Blk.on ks11 hb12
    have kg12 : Blk w12 _ _ _ := Blk.on kg11 hb12
    have or12 := RdI.on or11 hb12
    have ow12 := OI.on ow11 hb12
    have og12 := MI.on og11 hb12
    have hB12 := on_ hB11 hb12
    clear rm11 zm11 rv11 zv11 rs11 zs11 rg11 zg11
    clear km11 kv11 ks11 kg11 or11 ow11 og11 hB11
    clear hb12
    have rm12 := km12.rule
    have zm12 := km12.lt
    have rv12 := kv12.rule
    have zv12 := kv12.lt
    have rs12 := ks12.rule
    have zs12 := ks12.lt
    have rg12 := kg12.rule
    have zg12 := kg12.lt
    have hne : ((1 + (us.length : Int)) != (1 + (us.length : Int))) = false := by simp
    go_wp2_with fail
    go_cut [14, 15] from 79 to 86 (fun s6 s7 wx => Made w12 us m (.int .i64 r0) s6 s7 wx)
    case first =>
      rename_i J_ K_ hJ_ hK_
      go_region_held3 (fun w' => (∀ i, w'.cell? ⟨w.heap.size, i, none⟩ = (#[.slice A vs.length c, .int .i64 k] : Array Value)[i]?) ∧ (∀ i, w'.cell? ⟨w.heap.size + 1, i, none⟩ = (#[.int .i64 va, .int .i64 vb, .int .i64 vc] : Array Value)[i]?))
        (first | with_reducible exact ⟨(Blk.on km12 hBd).rule, (Blk.on kv12 hBd).rule⟩ | with_reducible exact ⟨(Blk.alloc (Blk.on km12 hBd) _).rule, (Blk.alloc (Blk.on kv12 hBd) _).rule⟩ | with_reducible exact ⟨(Blk.on km12 hBb).rule, (Blk.on kv12 hBb).rule⟩ | with_reducible exact ⟨(Blk.alloc (Blk.on km12 hBb) _).rule, (Blk.alloc (Blk.on kv12 hBb) _).rule⟩ | with_reducible exact ⟨(Blk.on km12 hBa).rule, (Blk.on kv12 hBa).rule⟩ | with_reducible exact ⟨(Blk.alloc (Blk.on km12 hBa) _).rule, (Blk.alloc (Blk.on kv12 hBa) _).rule⟩ | with_reducible exact ⟨(Blk.dr km12).rule, (Blk.dr kv12).rule⟩ | with_reducible exact ⟨(Blk.dr (Blk.alloc km12 _)).rule, (Blk.dr (Blk.alloc kv12 _)).rule⟩ | with_reducible exact ⟨rm12, rv12⟩ | with_reducible exact ⟨(Blk.alloc km12 _).rule, (Blk.alloc kv12 _).rule⟩ | with_reducible exact ⟨(Blk.six (Blk.on km12 hBd) (by omega) _ _).rule, (Blk.six (Blk.on kv12 hBd) (by omega) _ _).rule⟩)
        (first
          | (go_at_call 45; refine (toStore_any A c vs k _ (by first | with_reducible exact RdI.dr or12 | with_reducible exact RdI.dr (RdI.up or12 _)) hn').mono ?_; rintro e wa ⟨ga, csa, rfl, hga, hqa, hpa, hba⟩; have hBa : Below w12.heap.size w12 wa := (by first | with_reducible exact on_ (Below.refl _ _).drew hba | with_reducible exact on_ (up_ (Below.refl _ _) _).drew hba); have hsza := hBa.size; have hsa : RdI wa wa.heap.size _ vs := hpa.rd hqa hqa.lt)
          | (go_at_call 36; refine (toCmd_any va vb vc _).mono ?_; rintro e wb ⟨rfl, hbb⟩; have hBb : Below w12.heap.size w12 wb := (by first | with_reducible exact on_ hBa hbb | with_reducible exact on_ (up_ hBa _) hbb); have hszb := hBb.size; have hsb : RdI wb wb.heap.size _ vs := (by first | with_reducible exact RdI.on hsa hbb | with_reducible exact RdI.on (RdI.up hsa _) hbb))
          | (go_at_call 26; refine (HIM.out _ _ (by first | with_reducible exact hsb | with_reducible exact RdI.up hsb _)).mono ?_; rintro e wd ⟨Bd, dd, rfl, hod, hbd⟩; have hBd : Below w12.heap.size w12 wd := (by first | with_reducible exact on_ hBb hbd | with_reducible exact on_ (up_ hBb _) hbd); have hszd := hBd.size; first | (have hz0 := (by with_reducible exact (Blk.on (Blk.new wb 36 #[.slice none 0 0, .int .i64 0]) hbd)); have hz1 : wb.heap.size < wd.heap.size := hz0.lt; have hzb : wb.heap.size + 1 ≤ (wb.alloc (.cells #[.slice none 0 0, .int .i64 0] 36)).heap.size := (by have := (Blk.new wb 36 #[.slice none 0 0, .int .i64 0]).lt; simp <;> omega); have rz0 := hz0.rule; have fz0 := fun i => hz0.frozen i) | (have hz0 := (by with_reducible exact (Blk.on (Blk.on (Blk.new wa 36 #[.slice none 0 0, .int .i64 0]) hbb) hbd)); have hz1 : wa.heap.size < wd.heap.size := hz0.lt; have hzb : wa.heap.size + 1 ≤ wb.heap.size := (by have := (Blk.on (Blk.new wa 36 #[.slice none 0 0, .int .i64 0]) hbb).lt; simp <;> omega); have rz0 := hz0.rule; have fz0 := fun i => hz0.frozen i) | (have hz0 := (by with_reducible exact (Blk.on (Blk.on (Blk.on (Blk.dr (Blk.new w12 36 #[.slice none 0 0, .int .i64 0])) hba) hbb) hbd)); have hz1 : w12.heap.size < wd.heap.size := hz0.lt; have hzb : w12.heap.size + 1 ≤ wb.heap.size := (by have := (Blk.on (Blk.on (Blk.dr (Blk.new w12 36 #[.slice none 0 0, .int .i64 0])) hba) hbb).lt; simp <;> omega); have rz0 := hz0.rule; have fz0 := fun i => hz0.frozen i) | skip))
      all_goals (refine hK_ _ _ (Met.intro (hJ_ _ _ ?_)); (repeat apply Exists.intro); refine ⟨?_, rfl⟩)
      all_goals first
        | (with_reducible refine made_early hz0 ?_ hBd hod hzb ?_) <;> omega
        | (with_reducible refine made_late hBd hod ?_) <;> first | exact hszb | (simp <;> omega)
    case rest =>
    revert wc
    intro w13 hcut
    obtain ⟨pu, B13, d13, rfl, rfl, ku13, ou13, hne13, hge13, hb13⟩ := hcut
    have km13 : Blk w13 _ _ _ := Blk.on km12 hb13
    have kv13 : Blk w13 _ _ _ := Blk.on kv12 hb13
    have ks13 : Blk w13 _ _ _ := Blk.on ks12 hb13
    have kg13 : Blk w13 _ _ _ := Blk.on kg12 hb13
    have or13 := RdI.on or12 hb13
    have ow13 := OI.on ow12 hb13
    have og13 := MI.on og12 hb13
    have hB13 := on_ hB12 hb13
    have hsz13 := hb13.size
    clear rm12 zm12 rv12 zv12 rs12 zs12 rg12 zg12
    clear km12 kv12 ks12 kg12 or12 ow12 og12 hB12
    clear hb13
    have rm13 := km13.rule
    have zm13 := km13.lt
    have rv13 := kv13.rule
    have zv13 := kv13.lt
    have rs13 := ks13.rule
    have zs13 := ks13.lt
    have rg13 := kg13.rule
    have zg13 := kg13.lt
    have ru13 := ku13.rule
    have zu13 := ku13.lt
    go_wp2_with fail
    refine (eqStore_same _ _ _ _ us m _ (by exact ou13.rd) (by exact ow13.rd) hul).mono ?_
    rintro e w14 ⟨rfl, hb14⟩
    have km14 : Blk w14 _ _ _ := Blk.on km13 hb14
    have kv14 : Blk w14 _ _ _ := Blk.on kv13 hb14
    have ks14 : Blk w14 _ _ _ := Blk.on ks13 hb14
    have kg14 : Blk w14 _ _ _ := Blk.on kg13 hb14
    have ku14 : Blk w14 _ _ _ := Blk.on ku13 hb14
    have or14 := RdI.on or13 hb14
    have ow14 := OI.on ow13 hb14
    have og14 := MI.on og13 hb14
    have ou14 := OI.on ou13 hb14
    have hB14 := on_ hB13 hb14
    clear rm13 zm13 rv13 zv13 rs13 zs13 rg13 zg13 ru13 zu13
    clear km13 kv13 ks13 kg13 ku13 or13 ow13 og13 ou13 hB13
    clear hb14
    have rm14 := km14.rule
    have zm14 := km14.lt
    have rv14 := kv14.rule
    have zv14 := kv14.lt
    have rs14 := ks14.rule
    have zs14 := ks14.lt
    have rg14 := kg14.rule
    have zg14 := kg14.lt
    have ru14 := ku14.rule
    have zu14 := ku14.lt
    go_wp2_with fail
    refine (heldStore_own 1 B5 d5 _ _ us.length _ _ og14 hul (by omega) (by omega)).mono ?_
    rintro e w15 ⟨rfl, hb15⟩
    have km15 : Blk w15 _ _ _ := Blk.on km14 hb15
    have kv15 : Blk w15 _ _ _ := Blk.on kv14 hb15
    have ks15 : Blk w15 _ _ _ := Blk.on ks14 hb15
    have kg15 : Blk w15 _ _ _ := Blk.on kg14 hb15
    have ku15 : Blk w15 _ _ _ := Blk.on ku14 hb15
    have or15 := RdI.on or14 hb15
    have ow15 := OI.on ow14 hb15
    have og15 := MI.on og14 hb15
    have ou15 := OI.on ou14 hb15
    have hB15 := on_ hB14 hb15
    clear rm14 zm14 rv14 zv14 rs14 zs14 rg14 zg14 ru14 zu14
    clear km14 kv14 ks14 kg14 ku14 or14 ow14 og14 ou14 hB14
    clear hb15
    have rm15 := km15.rule
    have zm15 := km15.lt
    have rv15 := kv15.rule
    have zv15 := kv15.lt
    have rs15 := ks15.rule
    have zs15 := ks15.lt
    have rg15 := kg15.rule
    have zg15 := kg15.lt
    have ru15 := ku15.rule
    have zu15 := ku15.lt
    go_wp2
    go_ret
    exact ⟨rfl, hB15⟩
theorem walk (A : Option Addr) (c : Nat) (vs : List Int) (k va vb vc : Int) (w : World) (hm : vs.length ≤ maxLen) (hr : RdI w w.heap.size A vs) :
    Calls Try.prog 12 #[.agg #[.slice A vs.length c, .int .i64 k], .agg #[.int .i64 va, .int .i64 vb, .int .i64 vc]] w fun e w' => e = .returned (.bool true) ∧ Below w.heap.size w w' :=
  walk0 A c vs (doU vs k va vb vc) k (doM vs k va vb vc) va vb vc  (doR vs k va vb vc) w hm (doU_small vs k va vb vc) hr
    (fun hn g W h => specStoreDo_any _ _ vs k va vb vc W h hn) (fun hn g W h => implStoreDo_any _ _ vs k va vb vc W h hn)


theorem closed : joinedFacts Try.prog 12 Try.f12 Rows.fnExactStoreDoSpec Rows.fnExactStoreDoRow = true := by
  unfold joinedFacts
  rw [D.make_is, D.enter_is, D.final_is]
  kernel_rfl

set_option maxRecDepth 100000 in
theorem lifted (os : Os) (started : os.Started) (H : Type) (enc : TypeId × Value → H) :
    ReturnsInHanded {} Try.checked os 12 .any (Rows.fnExactStoreDoSpec.pre6 enc Try.prog Try.f12 Rows.fnExactStoreDoRow.domain false) (Rows.fnExactStoreDoSpec.post enc Try.prog Try.f12 false true false false) := by
  refine returnsInHanded_of_change (C := Try.checked) D.own started (by kernel_rfl) Try.func12
    (ChangeSpec.witness6 (enc := enc) (C := Try.checked) false ⟨#[], #[.agg #[.slice none 0 0, .int .i64 0], .agg #[.int .i64 0, .int .i64 0, .int .i64 0]], []⟩ 8 (by kernel_rfl) (by kernel_rfl) (by kernel_rfl) (by kernel_rfl)) ?_
  intro W base args ds gs before hval0 hW hcnd _
  have hval : ∀ (j : Nat) t v, Try.f12.params[j]? = some t → args[j]? = some v → Value.okWide Try.prog W .any base t v := hval0
  have hW' := hW
  obtain ⟨p, q, hA0, hV, rfl, hfz, hnd⟩ := hW
  have hA : DataW.TrodAll enc Try.prog W 0 (fun _ => true) true Try.f12.params.toList args.toList ds p := hA0
  rw [Try.params12] at hA hval
  obtain ⟨v0, v1, d0, d1, p0, p1, rfl, rfl, rfl, h0, h1⟩ := trodAll_two hA
  obtain ⟨cs0, rfl, hsz0⟩ := okWide_struct Try.underlying62 (hval 0 62 v0 rfl rfl)
  obtain ⟨fuel0, hf0⟩ := h0
  obtain ⟨At, ct, st, kt, hcs0, hmt, hrt⟩ := open_store hf0
  obtain rfl : cs0 = #[.slice At st.length ct, .int .i64 kt] := by
    obtain ⟨l⟩ := cs0
    simpa [Value.cells] using hcs0
  obtain ⟨cs1, rfl, hsz1⟩ := okWide_struct Try.underlying56 (hval 1 56 v1 rfl rfl)
  obtain ⟨fuel1, hf1⟩ := h1
  obtain ⟨an, bn, cn, hcs1⟩ := open_cmd hf1
  obtain rfl : cs1 = #[.int .i64 an, .int .i64 bn, .int .i64 cn] := by
    obtain ⟨l⟩ := cs1
    simpa [Value.cells] using hcs1
  refine (walk At ct st kt an bn cn  W hmt hrt).mono fun e W' ⟨he, hb⟩ => ⟨_, he, law_post D.laidOut hW' hb rfl (by kernel_rfl) Try.underlying4 (by kernel_rfl) rfl⟩

theorem over : Rows.fnExactStoreDoRow.holds Try.pinned (OpenSpec.ofChange Rows.fnExactStoreDoSpec) :=
  OpenClaim.holds_of_wide 12 Try.f12 rfl rfl rfl rfl rfl rfl rfl ⟨rfl, rfl, rfl, rfl, rfl⟩ rfl rfl rfl rfl rfl (by kernel_rfl) Try.func12 closed
    (of_decide_eq_true (by kernel_rfl)) (by unfold Func.isWrapper; first | (rw [if_pos (by decide +kernel)]; kernel_rfl) | (rw [if_neg (by decide +kernel)]; exact ⟨rfl, rfl⟩))
    (fun os started H enc _ => lifted os started H enc)

theorem proved : Rows.FnExactStoreDoSaid :=
  over
end Go.Proofs.Ytfebeafonifpdaa.fnExactStoreDo
