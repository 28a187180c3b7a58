/-
  Proved here: for whatever state of a replica and number, ReportOf of the program answers as ReportOf of the model, both results; the argument reads afterwards as before, and the answer owns its memory. No condition.
-/
import Derived.Test.YtfdfjmibjnmhpaaRows
import Derived.Test.YtfdfjmibjnmhpaaDoor
import Derived.Test.YtfdfjmibjnmhpaaLiftQ
import Derived.Test.YtfdfjmibjnmhpaaWkq
import Derived.Test.YtfdfjmibjnmhpaaQRepA
import Derived.Deep.RegionHeld3
set_option linter.unusedVariables false
set_option maxRecDepth 100000
namespace Go.Proofs.Ytfdfjmibjnmhpaa.fnExactReportOf
open Go.RowKit Go.ChangeShapes Go.WideShapes Go.Proofs.Ytfdfjmibjnmhpaa.B Go.Proofs.Ytfdfjmibjnmhpaa.V
theorem dr_ {w : World} {q : Rq} (h : RdQ w w.heap.size q) : RdQ w.drew w.drew.heap.size q := ⟨h.v, h.p, h.o, h.r, h.d, h.h⟩
theorem sh_dr {lo hi : Nat} {a w : World} (h : Sh lo hi a w) (hh : hi ≤ a.heap.size) : Sh lo hi a w.drew := h.on (Below.refl _ _).drew hh
theorem OV.sh {lo hi : Nat} {w w' : World} {t base : Nat} {A : Option Addr} {xs : List (Int × Int)} (h : OV w t base A xs) (hs : Sh lo hi w w') (ho : ∀ g', A = some ⟨g', 0, none⟩ → g' < lo ∨ hi ≤ g') : OV w' t base A xs := by
  rcases h with h | ⟨g, cur, rfl, hg, hb, hp⟩
  · exact .inl h
  · exact .inr ⟨g, cur, rfl, hg, hb.sh hs (ho g rfl), hp⟩
theorem OV.keep {w w' : World} {t base : Nat} {A : Option Addr} {us : List (Int × Int)} {row : Option Nat} (h : OV w t base A us) (hgr : w.grownBy w' row) (hne : ∀ g', A = some ⟨g', 0, none⟩ → row ≠ some g') : OV w' t base A us := by
  rcases h with ⟨rfl, rfl⟩ | ⟨g', cur, rfl, hb, hk, hp⟩
  · exact OV.nil_
  · exact .inr ⟨g', cur, rfl, hb, (hgr.block g' hk.lt (fun e => hne g' rfl e.symm)).trans hk, hp⟩
theorem mark_grow (k v x a b m : Int) (A : Option Addr) (c t base : Nat) (us : List (Int × Int)) (w : World) (h : OV w t base A us) (hn : us.length ≤ 1048576) (h0 : 0 ≤ m) (h1 : m ≤ 16777216) :
    Calls Try.prog 17 #[.agg #[.int .i64 k, .int .i64 v, .int .i64 x, .int .i64 a, .int .i64 b, .slice A us.length c], .int .i64 m] w fun e w' =>
      e = .returned (.int .i64 (m + 2 * us.length)) ∧ MV w' t base A us.length m ∧ ∃ row, (∀ g, row = some g → A = some ⟨g, 0, none⟩) ∧ w.grownBy w' row := by
  rcases h with ⟨rfl, rfl⟩ | ⟨g, cur, rfl, hg, hb, hs, hp⟩
  · refine (markMsg_nil k v x a b m none c w h0 h1).mono ?_
    rintro e w' ⟨rfl, hb⟩
    exact ⟨by simp, .inl rfl, none, by simp, hb.os, hb.tape, hb.output, hb.size, fun i hi _ => hb.block i hi⟩
  · refine (markMsg_any k v x a b m g us.length c t cur w hb hs hn h0 h1).mono ?_
    rintro e w' ⟨rfl, ds, hd, _, hm, hgr⟩
    exact ⟨rfl, .inr ⟨g, ds, rfl, hg, hd, hm⟩, some g, by simp, hgr⟩
def NR (k v x a b : Int) (us : List (Int × Int)) (z : Bool) (w : World) (e : Ending) (w' : World) : Prop := ∃ A d, e = .returned (.tuple #[.agg #[.int .i64 k, .int .i64 v, .int .i64 x, .int .i64 a, .int .i64 b, .slice A us.length d], .bool z]) ∧ OV w' 34 w.heap.size A us ∧ Below w.heap.size w w'
set_option maxHeartbeats 6400000 in
theorem walk0 (q : Rq) (vw : Int) (k_ v_ x_ a_ b_ : Int) (us : List (Int × Int)) (z_ : Bool) (hxl0 : FewQ q → us.length ≤ 1048576) (w : World) (hL : LensQ q) (hr : RdQ w w.heap.size q)
    (hsp : FewQ q → ∀ (p : Rq) (W : World), p.dat = q.dat → FewQ p → RdQ W W.heap.size p → Calls Try.prog 13 #[p.agg, .int .i64 vw] W (NR k_ v_ x_ a_ b_ us z_ W))
    (him : FewQ q → ∀ (p : Rq) (W : World), p.dat = q.dat → FewQ p → RdQ W W.heap.size p → Calls Try.prog 14 #[p.agg, .int .i64 vw] W (NR k_ v_ x_ a_ b_ us z_ W)) :
    Calls Try.prog 4 #[q.agg, .int .i64 vw] w fun e w' => e = .returned (.bool true) ∧ Below w.heap.size w w' := by
  have hsz := szRep_any q 1048576 (w.alloc (.cells q.cells 30)) (hr.up (.cells q.cells 30)).h hL (by omega) (by omega)
  by_cases hn : (1048576 : Int) < (tot q : Int)
  · rw [if_pos hn] at hsz
    have H1 := Lib.hid hsz
    clear hsp him hsz hr hL hn hxl0
    have hB := up_ (Below.refl w.heap.size w) (.cells q.cells 30)
    have ka := Blk.new w 30 q.cells
    obtain ⟨n, id, own, view, left, voted, lv, lx, dn, pr, vo, re, ds, hs, Av, Ap, Ao, Ar, Ad, Ah, cv, cp, co, cr, cd, ch⟩ := q
    simp only [Rq.agg, Rq.cells] at *
    have ra := ka.rule
    go_enter Try.func4, Try.ntmps4
    go_wp2_with fail
    refine H1.out.mono ?_
    rintro e w1 ⟨rfl, hb1⟩
    have hB1 := on_ hB hb1
    clear ra ka hB hb1
    go_wp2
    go_ret
    exact ⟨rfl, hB1⟩
  · rw [if_neg hn] at hsz
    have hfew : FewQ q := fewQ_of (by omega)
    have htot : tot q ≤ 1048576 := by omega
    have hxl := hxl0 hfew; clear hxl0
    obtain ⟨y, hy⟩ : ∃ y : Int, 1048576 - (tot q : Int) = y := ⟨_, rfl⟩
    rw [hy] at hsz
    have hy0 : 0 ≤ y := by omega
    have hy1 : ¬ y < 0 := by omega
    have hy2 : y ≤ 1048576 := by omega
    clear hy
    have H1 := Lib.hid hsz; clear hsz hn hL
    have HSP := Lib.hid (hsp hfew); have HIM := Lib.hid (him hfew); clear hsp him
    have HT := Lib.hid (fun (W : World) (h : Below w.heap.size w W) => toRep_own q W ((hr.below h).more h.size) hfew)
    have HE := Lib.hid (fun (a b : Rq) (ha : a.dat = q.dat) (hb : b.dat = q.dat) (W : World) (h1 : RdQ W W.heap.size a) (h2 : RdQ W W.heap.size b) => eqRep_same a b (hb.trans ha.symm) W h1 h2 (hfew.same ha))
    have HF := Lib.hid (fun (a : Rq) (ha : a.dat = q.dat) => hfew.same ha)
    have HMK := Lib.hid (fun (lo hi : Nat) (a : Rq) (ha : a.dat = q.dat) (W : World) (hh : hi ≤ W.heap.size) (hS : QSh lo hi W a) => wRep a 1 W (Sh.refl lo hi W) hh hS (hfew.same ha) (by rw [tot_same ha]; exact htot) (by omega) (by omega))
    have HB0 := Lib.hid (up_ (Below.refl w.heap.size w) (.cells q.cells 30))
    have ka0 := Blk.new w 30 q.cells
    clear hfew hr htot
    have hne : ((1 + 2 * (us.length : Int)) != (1 + 2 * (us.length : Int))) = false := by simp
    have hnq : (z_ != z_) = false := by simp
    obtain ⟨V, hV⟩ : ∃ V, q = V := ⟨_, rfl⟩
    obtain ⟨n, id, own, view, left, voted, lv, lx, dn, pr, vo, re, ds, hs, Av, Ap, Ao, Ar, Ad, Ah, cv, cp, co, cr, cd, ch⟩ := q
    simp only [Rq.agg, Rq.cells] at *
    have rka0 := ka0.rule
    go_enter Try.func4, Try.ntmps4
    go_wp2_with fail
    refine (H1.out).mono ?_
    rintro e w1 ⟨rfl, hb⟩
    have HB1 := Lib.hid (on_ HB0.out hb)
    have ka1 := ka0.on hb
    clear HB0 ka0 rka0
    have rka1 := ka1.rule
    clear hb
    clear H1
    go_wp2_with fail
    refine (HT.out w1 HB1.out).mono ?_
    rintro e w2 ⟨⟨n2, id2, own2, view2, left2, voted2, lv2, lx2, dn2, pr2, vo2, re2, ds2, hs2, Av2, Ap2, Ao2, Ar2, Ad2, Ah2, cv2, cp2, co2, cr2, cd2, ch2⟩, rfl, hd2, hrq2, hb⟩
    have HB2 := Lib.hid (on_ HB1.out hb)
    have ka2 := ka1.on hb
    clear HB1 ka1 rka1
    have rka2 := ka2.rule
    clear hb
    dsimp only
    have HD2 := Lib.hid hd2; have HQ2 := Lib.hid hrq2.1; clear hd2 hrq2
    go_wp2_with fail
    refine (HSP.out _ w2 HD2.out (HF.out _ HD2.out) HQ2.out).mono ?_
    rintro e w3 ⟨AXs, dXs, rfl, hos, hb⟩
    have HB3 := Lib.hid (on_ HB2.out hb)
    have ka3 := ka2.on hb
    clear HB2 ka2 rka2
    have rka3 := ka3.rule
    have HLS := Lib.hid hos.lt
    clear hb
    have HOS3 := Lib.hid hos; clear hos HQ2 HD2
    have hz3 : w.heap.size < w3.heap.size := ka3.lt
    have ks3b := Blk.new w3 45 #[.int .i64 k_, .int .i64 v_, .int .i64 x_, .int .i64 a_, .int .i64 b_, .slice AXs us.length dXs]
    have HB3b := Lib.hid (up_ HB3.out (.cells #[.int .i64 k_, .int .i64 v_, .int .i64 x_, .int .i64 a_, .int .i64 b_, .slice AXs us.length dXs] 45))
    have ka3b := ka3.alloc (.cells #[.int .i64 k_, .int .i64 v_, .int .i64 x_, .int .i64 a_, .int .i64 b_, .slice AXs us.length dXs] 45)
    have HOS3b := Lib.hid (HOS3.out.up (.cells #[.int .i64 k_, .int .i64 v_, .int .i64 x_, .int .i64 a_, .int .i64 b_, .slice AXs us.length dXs] 45))
    have rka3b := ka3b.rule
    have rks3b := ks3b.rule
    go_wp2_with fail
    clear rka3b rks3b
    clear HB3 ka3 HOS3 rka3
    have HB3 := HB3b; clear HB3b
    have ka3 := ka3b; clear ka3b
    have HOS3 := HOS3b; clear HOS3b
    have ks3 := ks3b; clear ks3b
    have rka3 := ka3.rule
    have rks3 := ks3.rule
    have hz3b : (w3.alloc (.cells #[.int .i64 k_, .int .i64 v_, .int .i64 x_, .int .i64 a_, .int .i64 b_, .slice AXs us.length dXs] 45)).heap.size = w3.heap.size + 1 := World.size_alloc _ _
    refine (HT.out _ HB3.out).mono ?_
    rintro e w4 ⟨⟨n4, id4, own4, view4, left4, voted4, lv4, lx4, dn4, pr4, vo4, re4, ds4, hs4, Av4, Ap4, Ao4, Ar4, Ad4, Ah4, cv4, cp4, co4, cr4, cd4, ch4⟩, rfl, hd4, hrq4, hb⟩
    have hz4 := hb.size
    rw [hz3b] at hz4
    have HB4 := Lib.hid (on_ HB3.out hb)
    have ka4 := ka3.on hb
    have HOS4 := Lib.hid (HOS3.out.on hb)
    have ks4 := ks3.on hb
    clear HB3 ka3 HOS3 ks3 rka3 rks3
    have rka4 := ka4.rule
    have rks4 := ks4.rule
    clear hb
    dsimp only
    have HD4 := Lib.hid hd4; have HQ4 := Lib.hid hrq4.1; have HQS := Lib.hid hrq4.2; clear hd4 hrq4
    have HSH4 := Lib.hid (Sh.refl (w3.alloc (.cells #[.int .i64 k_, .int .i64 v_, .int .i64 x_, .int .i64 a_, .int .i64 b_, .slice AXs us.length dXs] 45)).heap.size w4.heap.size w4)
    go_wp2_with fail
    have kx4b := Blk.new w4 40 #[.int .i64 n4, .int .i64 id4, .int .i64 own4, .int .i64 view4, .int .i64 left4, .slice Av4 voted4.length cv4, .int .i64 lv4, .int .i64 lx4, .int .i64 dn4, .slice Ap4 pr4.length cp4, .slice Ao4 vo4.length co4, .slice Ar4 re4.length cr4, .slice Ad4 ds4.length cd4, .slice Ah4 hs4.length ch4]
    have HB4b := Lib.hid (up_ HB4.out (.cells #[.int .i64 n4, .int .i64 id4, .int .i64 own4, .int .i64 view4, .int .i64 left4, .slice Av4 voted4.length cv4, .int .i64 lv4, .int .i64 lx4, .int .i64 dn4, .slice Ap4 pr4.length cp4, .slice Ao4 vo4.length co4, .slice Ar4 re4.length cr4, .slice Ad4 ds4.length cd4, .slice Ah4 hs4.length ch4] 40)); have ka4b := ka4.up (.cells #[.int .i64 n4, .int .i64 id4, .int .i64 own4, .int .i64 view4, .int .i64 left4, .slice Av4 voted4.length cv4, .int .i64 lv4, .int .i64 lx4, .int .i64 dn4, .slice Ap4 pr4.length cp4, .slice Ao4 vo4.length co4, .slice Ar4 re4.length cr4, .slice Ad4 ds4.length cd4, .slice Ah4 hs4.length ch4] 40); have ks4b := ks4.up (.cells #[.int .i64 n4, .int .i64 id4, .int .i64 own4, .int .i64 view4, .int .i64 left4, .slice Av4 voted4.length cv4, .int .i64 lv4, .int .i64 lx4, .int .i64 dn4, .slice Ap4 pr4.length cp4, .slice Ao4 vo4.length co4, .slice Ar4 re4.length cr4, .slice Ad4 ds4.length cd4, .slice Ah4 hs4.length ch4] 40); have HOS4b := Lib.hid (HOS4.out.up (.cells #[.int .i64 n4, .int .i64 id4, .int .i64 own4, .int .i64 view4, .int .i64 left4, .slice Av4 voted4.length cv4, .int .i64 lv4, .int .i64 lx4, .int .i64 dn4, .slice Ap4 pr4.length cp4, .slice Ao4 vo4.length co4, .slice Ar4 re4.length cr4, .slice Ad4 ds4.length cd4, .slice Ah4 hs4.length ch4] 40)); have HSH4b := Lib.hid (HSH4.out.on ((Below.refl _ _).alloc (Nat.le_refl _) (.cells #[.int .i64 n4, .int .i64 id4, .int .i64 own4, .int .i64 view4, .int .i64 left4, .slice Av4 voted4.length cv4, .int .i64 lv4, .int .i64 lx4, .int .i64 dn4, .slice Ap4 pr4.length cp4, .slice Ao4 vo4.length co4, .slice Ar4 re4.length cr4, .slice Ad4 ds4.length cd4, .slice Ah4 hs4.length ch4] 40)) (Nat.le_refl _)); have HQ4b := Lib.hid (HQ4.out.up (.cells #[.int .i64 n4, .int .i64 id4, .int .i64 own4, .int .i64 view4, .int .i64 left4, .slice Av4 voted4.length cv4, .int .i64 lv4, .int .i64 lx4, .int .i64 dn4, .slice Ap4 pr4.length cp4, .slice Ao4 vo4.length co4, .slice Ar4 re4.length cr4, .slice Ad4 ds4.length cd4, .slice Ah4 hs4.length ch4] 40))
    clear HB4 ka4 ks4 HOS4 HSH4 HQ4 rka4 rks4
    refine (HIM.out _ _ HD4.out (HF.out _ HD4.out) HQ4b.out).mono ?_
    rintro e w5 ⟨AXg, dXg, rfl, hog, hb⟩
    have HB5 := Lib.hid (on_ HB4b.out hb); have ka5 := ka4b.on hb; have kx5 := kx4b.on hb; have ks5 := ks4b.on hb; have HOS5 := Lib.hid (HOS4b.out.on hb); have HSH5 := Lib.hid (HSH4b.out.on hb (Nat.le_refl _)); have HQ5 := Lib.hid (HQ4b.out.on hb); have HOG5 := Lib.hid hog
    have hlg5 : ∀ g, AXg = some ⟨g, 0, none⟩ → w4.heap.size ≤ g := fun g e => by have := hog.ge g e; simp at this; omega
    have HLG := Lib.hid hlg5; have HTG := Lib.hid hog.lt
    have hz5 : w4.heap.size < w5.heap.size := kx5.lt
    clear hb hog hlg5 HB4b ka4b kx4b ks4b HOS4b HSH4b HQ4b
    have rka5 := ka5.rule; have rkx5 := kx5.rule; have rks5 := ks5.rule
    have kg5b := Blk.new w5 45 #[.int .i64 k_, .int .i64 v_, .int .i64 x_, .int .i64 a_, .int .i64 b_, .slice AXg us.length dXg]
    have HB5b := Lib.hid (up_ HB5.out (.cells #[.int .i64 k_, .int .i64 v_, .int .i64 x_, .int .i64 a_, .int .i64 b_, .slice AXg us.length dXg] 45))
    have ka5b := ka5.alloc (.cells #[.int .i64 k_, .int .i64 v_, .int .i64 x_, .int .i64 a_, .int .i64 b_, .slice AXg us.length dXg] 45)
    have kx5b := kx5.alloc (.cells #[.int .i64 k_, .int .i64 v_, .int .i64 x_, .int .i64 a_, .int .i64 b_, .slice AXg us.length dXg] 45)
    have ks5b := ks5.alloc (.cells #[.int .i64 k_, .int .i64 v_, .int .i64 x_, .int .i64 a_, .int .i64 b_, .slice AXg us.length dXg] 45)
    have HOS5b := Lib.hid (HOS5.out.up (.cells #[.int .i64 k_, .int .i64 v_, .int .i64 x_, .int .i64 a_, .int .i64 b_, .slice AXg us.length dXg] 45))
    have HSH5b := Lib.hid (HSH5.out.on ((Below.refl _ _).alloc (Nat.le_refl _) (.cells #[.int .i64 k_, .int .i64 v_, .int .i64 x_, .int .i64 a_, .int .i64 b_, .slice AXg us.length dXg] 45)) (Nat.le_refl _))
    have HQ5b := Lib.hid (HQ5.out.up (.cells #[.int .i64 k_, .int .i64 v_, .int .i64 x_, .int .i64 a_, .int .i64 b_, .slice AXg us.length dXg] 45))
    have HOG5b := Lib.hid (HOG5.out.up (.cells #[.int .i64 k_, .int .i64 v_, .int .i64 x_, .int .i64 a_, .int .i64 b_, .slice AXg us.length dXg] 45))
    have rka5b := ka5b.rule
    have rkx5b := kx5b.rule
    have rks5b := ks5b.rule
    have rkg5b := kg5b.rule
    go_wp2_with fail
    clear rka5b rkx5b rks5b rkg5b
    clear HB5 ka5 kx5 ks5 HOS5 HSH5 HQ5 HOG5 rka5 rkx5 rks5
    have HB5 := HB5b; clear HB5b
    have ka5 := ka5b; clear ka5b
    have kx5 := kx5b; clear kx5b
    have ks5 := ks5b; clear ks5b
    have HOS5 := HOS5b; clear HOS5b
    have HSH5 := HSH5b; clear HSH5b
    have HQ5 := HQ5b; clear HQ5b
    have HOG5 := HOG5b; clear HOG5b
    have kg5 := kg5b; clear kg5b
    have rka5 := ka5.rule
    have rkx5 := kx5.rule
    have rks5 := ks5.rule
    have rkg5 := kg5.rule
    refine (eqMsg_same k_ v_ x_ a_ b_ _ _ _ _ us _ (by exact HOG5.out.rd) (by exact HOS5.out.rd) hxl).mono ?_
    rintro e w6 ⟨rfl, hb⟩
    have HB6 := Lib.hid (on_ HB5.out hb)
    have ka6 := ka5.on hb
    have kx6 := kx5.on hb
    have ks6 := ks5.on hb
    have HOS6 := Lib.hid (HOS5.out.on hb)
    have HSH6 := Lib.hid (HSH5.out.on hb (Nat.le_refl _))
    have HQ6 := Lib.hid (HQ5.out.on hb)
    have HOG6 := Lib.hid (HOG5.out.on hb)
    have kg6 := kg5.on hb
    clear HB5 ka5 kx5 ks5 HOS5 HSH5 HQ5 HOG5 kg5 rka5 rkx5 rks5 rkg5
    have rka6 := ka6.rule
    have rkx6 := kx6.rule
    have rks6 := ks6.rule
    have rkg6 := kg6.rule
    clear hb
    go_wp2
    go_region_held3 (fun w' => (∀ i, w'.cell? ⟨w4.heap.size, i, none⟩ = (#[.int .i64 n4, .int .i64 id4, .int .i64 own4, .int .i64 view4, .int .i64 left4, .slice Av4 voted4.length cv4, .int .i64 lv4, .int .i64 lx4, .int .i64 dn4, .slice Ap4 pr4.length cp4, .slice Ao4 vo4.length co4, .slice Ar4 re4.length cr4, .slice Ad4 ds4.length cd4, .slice Ah4 hs4.length ch4] : Array Value)[i]?) ∧ (∀ i, w'.cell? ⟨w.heap.size, i, none⟩ = (#[.int .i64 n, .int .i64 id, .int .i64 own, .int .i64 view, .int .i64 left, .slice Av voted.length cv, .int .i64 lv, .int .i64 lx, .int .i64 dn, .slice Ap pr.length cp, .slice Ao vo.length co, .slice Ar re.length cr, .slice Ad ds.length cd, .slice Ah hs.length ch] : Array Value)[i]?))
      (first | exact ⟨kx8.rule, ka8.rule⟩ | exact ⟨kx7.rule, ka7.rule⟩ | exact ⟨rkx6, rka6⟩)
      (first
        | (go_at_call 10; refine (HT.out _ (by exact HB6.out.drew)).mono ?_; rintro e w7 ⟨⟨n6, id6, own6, view6, left6, voted6, lv6, lx6, dn6, pr6, vo6, re6, ds6, hs6, Av6, Ap6, Ao6, Ar6, Ad6, Ah6, cv6, cp6, co6, cr6, cd6, ch6⟩, rfl, hd, hrq, hb⟩; have ka7 : Blk w7 _ _ _ := Blk.on (w := w6.drew) ka6 hb; have kx7 : Blk w7 _ _ _ := Blk.on (w := w6.drew) kx6 hb; have ks7 : Blk w7 _ _ _ := Blk.on (w := w6.drew) ks6 hb; have kg7 : Blk w7 _ _ _ := Blk.on (w := w6.drew) kg6 hb; have HD6 := Lib.hid hd; have HQ6_ := Lib.hid hrq.1; have HQ7 := Lib.hid (RdQ.on (w := w6.drew) (dr_ HQ6.out) hb); have HB7 := Lib.hid (on_ (HB6.out).drew hb); have HOS7 := Lib.hid (OV.on (w := w6.drew) (HOS6.out.on (Below.refl _ _).drew) hb); have HOG7 := Lib.hid (OV.on (w := w6.drew) (HOG6.out.on (Below.refl _ _).drew) hb); have HSH7 := Lib.hid ((sh_dr HSH6.out (Nat.le_refl _)).on hb (Nat.le_refl _)); clear hd hrq hb)
        | (go_at_call 12; refine (HE.out _ _ HD4.out HD6.out _ HQ7.out HQ6_.out).mono ?_; rintro e w8 ⟨rfl, hb⟩; have ka8 : Blk w8 _ _ _ := Blk.on ka7 hb; have kx8 : Blk w8 _ _ _ := Blk.on kx7 hb; have ks8 : Blk w8 _ _ _ := Blk.on ks7 hb; have kg8 : Blk w8 _ _ _ := Blk.on kg7 hb; have HB8 := Lib.hid (on_ HB7.out hb); have HOS8 := Lib.hid (HOS7.out.on hb); have HOG8 := Lib.hid (HOG7.out.on hb); have HSH8 := Lib.hid (HSH7.out.on hb (Nat.le_refl _)); clear hb))
    clear ka6 kx6 ks6 kg6 rka6 rkx6 rks6 rkg6 HB6 HOS6 HOG6 HSH6 HQ6 ka7 kx7 ks7 kg7 HB7 HOS7 HOG7 HSH7 HQ7 HD6 HQ6_
    have rka8 := ka8.rule; have rkx8 := kx8.rule; have rks8 := ks8.rule; have rkg8 := kg8.rule
    have hz8 := HSH8.out.size
    go_wp2_with fail
    refine (HMK.out (w3.alloc (.cells #[.int .i64 k_, .int .i64 v_, .int .i64 x_, .int .i64 a_, .int .i64 b_, .slice AXs us.length dXs] 45)).heap.size w4.heap.size _ HD4.out w8 hz8 (HQS.out.sh HSH8.out)).mono ?_
    rintro e w9 ⟨r9, rfl, hr9, hr9b, hsh⟩
    rw [hz3b] at hsh
    have hz9 := hsh.size
    have HB9 := Lib.hid (HB8.out.trans (hsh.below (by omega) HB8.out.size))
    have ka9 := ka8.sh hsh (.inl (by omega))
    have ks9 := ks8.sh hsh (.inl (by omega))
    have kg9 := kg8.sh hsh (.inr (by omega))
    have HOS9 := Lib.hid (OV.sh HOS8.out hsh (fun g' e => .inl (by have := HLS.out g' e; omega)))
    have HOG9 := Lib.hid (OV.sh HOG8.out hsh (fun g' e => .inr (HLG.out g' e)))
    clear HB8 ka8 kx8 ks8 kg8 rka8 rkx8 rks8 rkg8 HOS8 HOG8 HSH8 HQS HMK hsh hr9b
    have hk9 : decide (r9 < 0) = false := decide_eq_false (by omega)
    have rka9 := ka9.rule; have rks9 := ks9.rule; have rkg9 := kg9.rule
    go_wp2_with fail
    refine (eqMsg_same k_ v_ x_ a_ b_ _ _ _ _ us _ (by exact HOG9.out.rd) (by exact HOS9.out.rd) hxl).mono ?_
    rintro e w10 ⟨rfl, hb⟩
    have HB10 := Lib.hid (on_ HB9.out hb)
    have ka10 := ka9.on hb
    have ks10 := ks9.on hb
    have kg10 := kg9.on hb
    have HOS10 := Lib.hid (HOS9.out.on hb)
    have HOG10 := Lib.hid (HOG9.out.on hb)
    clear HB9 ka9 ks9 kg9 HOS9 HOG9 rka9 rks9 rkg9
    have rka10 := ka10.rule
    have rks10 := ks10.rule
    have rkg10 := kg10.rule
    clear hb
    go_wp2_with fail
    refine (mark_grow k_ v_ x_ a_ b_ 1 AXg dXg _ _ us w10 HOG10.out hxl (by omega) (by omega)).mono ?_
    rintro e w11 ⟨rfl, hmi, row, hrow, hgr⟩
    have HB11 := Lib.hid (Below.own HB10.out hgr (fun g e => by have := HLG.out _ (hrow _ e); omega) (Nat.le_refl _))
    have ka11 := Blk.own ka10 hgr (fun e => by have := HLG.out _ (hrow _ e); omega)
    have ks11 := Blk.own ks10 hgr (fun e => by have := HLG.out _ (hrow _ e); omega)
    have kg11 := Blk.own kg10 hgr (fun e => by have := HTG.out _ (hrow _ e); omega)
    have HOS11 := Lib.hid (OV.keep HOS10.out hgr (fun g' e' e => by have a1 := HLS.out g' e'; have a2 := HLG.out _ (hrow _ e); omega))
    have HMI11 := Lib.hid hmi
    clear HB10 ka10 ks10 kg10 rka10 rks10 rkg10 HOS10 HOG10 hmi hrow hgr
    have rka11 := ka11.rule; have rks11 := ks11.rule; have rkg11 := kg11.rule
    go_wp2_with fail
    refine (heldMsg_own k_ v_ x_ a_ b_ 1 AXg dXg _ _ us.length _ HMI11.out hxl (by omega) (by omega)).mono ?_
    rintro e w12 ⟨rfl, hb⟩
    have HB12 := Lib.hid (on_ HB11.out hb)
    have ka12 := ka11.on hb
    have ks12 := ks11.on hb
    have kg12 := kg11.on hb
    have HOS12 := Lib.hid (HOS11.out.on hb)
    have HMI12 := Lib.hid (HMI11.out.on hb)
    clear HB11 ka11 ks11 kg11 HOS11 HMI11 rka11 rks11 rkg11
    have rka12 := ka12.rule
    have rks12 := ks12.rule
    have rkg12 := kg12.rule
    clear hb
    go_wp2_with fail
    refine (HT.out w12 HB12.out).mono ?_
    rintro e w13 ⟨⟨n13, id13, own13, view13, left13, voted13, lv13, lx13, dn13, pr13, vo13, re13, ds13, hs13, Av13, Ap13, Ao13, Ar13, Ad13, Ah13, cv13, cp13, co13, cr13, cd13, ch13⟩, rfl, hd13, hrq13, hb⟩
    have HB13 := Lib.hid (on_ HB12.out hb)
    have ka13 := ka12.on hb
    have ks13 := ks12.on hb
    have kg13 := kg12.on hb
    have HOS13 := Lib.hid (HOS12.out.on hb)
    have HMI13 := Lib.hid (HMI12.out.on hb)
    clear HB12 ka12 ks12 kg12 HOS12 HMI12 rka12 rks12 rkg12
    have rka13 := ka13.rule
    have rks13 := ks13.rule
    have rkg13 := kg13.rule
    clear hb
    dsimp only
    have HD13 := Lib.hid hd13; have HQ13 := Lib.hid hrq13.1; clear hd13 hrq13
    go_wp2_with fail
    refine (HIM.out _ w13 HD13.out (HF.out _ HD13.out) HQ13.out).mono ?_
    rintro e w14 ⟨AXh, dXh, rfl, hoh, hb⟩
    have HB14 := Lib.hid (on_ HB13.out hb)
    have ka14 := ka13.on hb
    have ks14 := ks13.on hb
    have kg14 := kg13.on hb
    have HOS14 := Lib.hid (HOS13.out.on hb)
    have HMI14 := Lib.hid (HMI13.out.on hb)
    clear HB13 ka13 ks13 kg13 HOS13 HMI13 rka13 rks13 rkg13
    have rka14 := ka14.rule
    have rks14 := ks14.rule
    have rkg14 := kg14.rule
    clear hb
    have HOH14 := Lib.hid hoh; clear hoh HQ13 HD13
    have kh14b := Blk.new w14 45 #[.int .i64 k_, .int .i64 v_, .int .i64 x_, .int .i64 a_, .int .i64 b_, .slice AXh us.length dXh]
    have HB14b := Lib.hid (up_ HB14.out (.cells #[.int .i64 k_, .int .i64 v_, .int .i64 x_, .int .i64 a_, .int .i64 b_, .slice AXh us.length dXh] 45))
    have ka14b := ka14.alloc (.cells #[.int .i64 k_, .int .i64 v_, .int .i64 x_, .int .i64 a_, .int .i64 b_, .slice AXh us.length dXh] 45)
    have ks14b := ks14.alloc (.cells #[.int .i64 k_, .int .i64 v_, .int .i64 x_, .int .i64 a_, .int .i64 b_, .slice AXh us.length dXh] 45)
    have kg14b := kg14.alloc (.cells #[.int .i64 k_, .int .i64 v_, .int .i64 x_, .int .i64 a_, .int .i64 b_, .slice AXh us.length dXh] 45)
    have HOS14b := Lib.hid (HOS14.out.up (.cells #[.int .i64 k_, .int .i64 v_, .int .i64 x_, .int .i64 a_, .int .i64 b_, .slice AXh us.length dXh] 45))
    have HMI14b := Lib.hid (HMI14.out.on ((Below.refl _ _).alloc (Nat.le_refl _) (.cells #[.int .i64 k_, .int .i64 v_, .int .i64 x_, .int .i64 a_, .int .i64 b_, .slice AXh us.length dXh] 45)))
    have HOH14b := Lib.hid (HOH14.out.up (.cells #[.int .i64 k_, .int .i64 v_, .int .i64 x_, .int .i64 a_, .int .i64 b_, .slice AXh us.length dXh] 45))
    have rka14b := ka14b.rule
    have rks14b := ks14b.rule
    have rkg14b := kg14b.rule
    have rkh14b := kh14b.rule
    go_wp2_with fail
    clear rka14b rks14b rkg14b rkh14b
    clear HB14 ka14 ks14 kg14 HOS14 HMI14 HOH14 rka14 rks14 rkg14
    have HB14 := HB14b; clear HB14b
    have ka14 := ka14b; clear ka14b
    have ks14 := ks14b; clear ks14b
    have kg14 := kg14b; clear kg14b
    have HOS14 := HOS14b; clear HOS14b
    have HMI14 := HMI14b; clear HMI14b
    have HOH14 := HOH14b; clear HOH14b
    have kh14 := kh14b; clear kh14b
    have rka14 := ka14.rule
    have rks14 := ks14.rule
    have rkg14 := kg14.rule
    have rkh14 := kh14.rule
    refine (eqMsg_same k_ v_ x_ a_ b_ _ _ _ _ us _ (by exact HOH14.out.rd) (by exact HOS14.out.rd) hxl).mono ?_
    rintro e w15 ⟨rfl, hb⟩
    have HB15 := Lib.hid (on_ HB14.out hb)
    have ka15 := ka14.on hb
    have ks15 := ks14.on hb
    have kg15 := kg14.on hb
    have HOS15 := Lib.hid (HOS14.out.on hb)
    have HMI15 := Lib.hid (HMI14.out.on hb)
    have HOH15 := Lib.hid (HOH14.out.on hb)
    have kh15 := kh14.on hb
    clear HB14 ka14 ks14 kg14 HOS14 HMI14 HOH14 kh14 rka14 rks14 rkg14 rkh14
    have rka15 := ka15.rule
    have rks15 := ks15.rule
    have rkg15 := kg15.rule
    have rkh15 := kh15.rule
    clear hb
    go_wp2_with fail
    refine (heldMsg_own k_ v_ x_ a_ b_ 1 AXg dXg _ _ us.length _ HMI15.out hxl (by omega) (by omega)).mono ?_
    rintro e w16 ⟨rfl, hb⟩
    have HB16 := Lib.hid (on_ HB15.out hb)
    have ka16 := ka15.on hb
    have ks16 := ks15.on hb
    have kg16 := kg15.on hb
    have HOS16 := Lib.hid (HOS15.out.on hb)
    have HMI16 := Lib.hid (HMI15.out.on hb)
    have HOH16 := Lib.hid (HOH15.out.on hb)
    have kh16 := kh15.on hb
    clear HB15 ka15 ks15 kg15 HOS15 HMI15 HOH15 kh15 rka15 rks15 rkg15 rkh15
    have rka16 := ka16.rule
    have rks16 := ks16.rule
    have rkg16 := kg16.rule
    have rkh16 := kh16.rule
    clear hb
    go_wp2
    go_ret
    exact ⟨rfl, HB16.out⟩
theorem walk (q : Rq) (vw : Int) (w : World) (hL : LensQ q) (hr : RdQ w w.heap.size q) :
    Calls Try.prog 4 #[q.agg, .int .i64 vw] w fun e w' => e = .returned (.bool true) ∧ Below w.heap.size w w' :=
  walk0 q vw (if rofQ q.dat vw then 3 else 0) (if rofQ q.dat vw then vw else 0) (0) (if rofQ q.dat vw then q.lv else 0) (if rofQ q.dat vw then q.lx else 0) (if rofQ q.dat vw then q.voted else []) (rofQ q.dat vw) (fun hf => by split; exact hf.v; simp) w hL hr ((fun _ p W e hf h => by have h9 := specReportOf_is p vw W h hf; have e1 : p.lv = q.lv := congrArg Rd4.lv e; have e2 : p.lx = q.lx := congrArg Rd4.lx e; have e3 : p.voted = q.voted := congrArg Rd4.voted e; rw [e, e1, e2, e3] at h9; exact h9)) ((fun _ p W e hf h => by have h9 := implReportOf_is p vw W h hf; have e1 : p.lv = q.lv := congrArg Rd4.lv e; have e2 : p.lx = q.lx := congrArg Rd4.lx e; have e3 : p.voted = q.voted := congrArg Rd4.voted e; rw [e, e1, e2, e3] at h9; exact h9))

theorem closed : joinedFacts Try.prog 4 Try.f4 Rows.fnExactReportOfSpec Rows.fnExactReportOfRow = true := by
  unfold joinedFacts
  rw [D.make_is, D.enter_is, D.final_is]
  kernel_rfl

set_option maxRecDepth 100000 in
theorem lifted (os : Os) (started : os.Started) (H : Type) (enc : TypeId × Value → H) :
    ReturnsInHanded {} Try.checked os 4 .any (Rows.fnExactReportOfSpec.pre6 enc Try.prog Try.f4 Rows.fnExactReportOfRow.domain false) (Rows.fnExactReportOfSpec.post enc Try.prog Try.f4 false true false false) := by
  refine returnsInHanded_of_change (C := Try.checked) D.own started (by kernel_rfl) Try.func4
    (ChangeSpec.witness6 (enc := enc) (C := Try.checked) false ⟨#[], #[.agg #[.int .i64 0, .int .i64 0, .int .i64 0, .int .i64 0, .int .i64 0, .slice none 0 0, .int .i64 0, .int .i64 0, .int .i64 0, .slice none 0 0, .slice none 0 0, .slice none 0 0, .slice none 0 0, .slice none 0 0], .int .i64 0], []⟩ 8 (by kernel_rfl) (by kernel_rfl) (by kernel_rfl) (by kernel_rfl)) ?_
  intro W base args ds gs before hval0 hW hcnd _
  have hval : ∀ (j : Nat) t v, Try.f4.params[j]? = some t → args[j]? = some v → Value.okWide Try.prog W .any base t v := hval0
  have hW' := hW
  obtain ⟨p, q, hA0, hV, rfl, hfz, hnd⟩ := hW
  have hA : DataW.TrodAll enc Try.prog W 0 (fun _ => true) true Try.f4.params.toList args.toList ds p := hA0
  rw [Try.params4] at hA hval
  obtain ⟨v0, v1, d0, d1, p0, p1, rfl, rfl, rfl, h0, h1⟩ := trodAll_two hA
  obtain ⟨vw, rfl, rfl, rfl, wvw⟩ := open_int Try.underlying3 (hval 1 3 v1 rfl rfl) h1
  obtain ⟨cs0, rfl, hsz0⟩ := okWide_struct Try.underlying30 (hval 0 30 v0 rfl rfl)
  obtain ⟨fuel0, hf0⟩ := h0
  obtain ⟨z, hcs0, hLz, hrz⟩ := open_rep hf0
  obtain rfl : cs0 = z.cells := by
    obtain ⟨l⟩ := cs0
    have h : l = z.cells.toList := hcs0
    rw [h]
  refine (walk z vw W hLz hrz).mono fun e W' ⟨he, hb⟩ => ⟨_, he, law_post D.laidOut hW' hb rfl (by kernel_rfl) Try.underlying4 (by kernel_rfl) rfl⟩

theorem over : Rows.fnExactReportOfRow.holds Try.pinned (OpenSpec.ofChange Rows.fnExactReportOfSpec) :=
  OpenClaim.holds_of_wide 4 Try.f4 rfl rfl rfl rfl rfl rfl rfl ⟨rfl, rfl, rfl, rfl, rfl⟩ rfl rfl rfl rfl rfl (by kernel_rfl) Try.func4 closed
    (of_decide_eq_true (by kernel_rfl)) (by unfold Func.isWrapper; first | (rw [if_pos (by decide +kernel)]; kernel_rfl) | (rw [if_neg (by decide +kernel)]; exact ⟨rfl, rfl⟩))
    (fun os started H enc _ => lifted os started H enc)

theorem proved : Rows.FnExactReportOfSaid :=
  over
end Go.Proofs.Ytfdfjmibjnmhpaa.fnExactReportOf
