/-
  Proved here: for whatever state of a replica and message, TellOf of the program answers as TellOf of the model, and both arguments read afterwards as before. No condition.
-/
import Derived.Test.YtfdfjmibjnmhpaaRows
import Derived.Test.YtfdfjmibjnmhpaaK01
import Derived.Test.YtfdfjmibjnmhpaaK04
import Derived.Test.YtfdfjmibjnmhpaaK05
import Derived.Test.YtfdfjmibjnmhpaaK06
import Derived.Test.YtfdfjmibjnmhpaaK17
import Derived.Deep.RegionHeld3
set_option linter.unusedVariables false
set_option maxRecDepth 100000
namespace Go.Proofs.Ytfdfjmibjnmhpaa.fnExactTellOf
open Go.RowKit Go.ChangeShapes Go.WideShapes Go.Proofs.Ytfdfjmibjnmhpaa.B Go.Proofs.Ytfdfjmibjnmhpaa.V
theorem dr_ {w : World} {q : Rq} (h : RdQ w w.heap.size q) : RdQ w.drew w.drew.heap.size q := ⟨h.v, h.p, h.o, h.r, h.d, h.h⟩
theorem toMsg_rd (k v x a b : Int) (A : Option Addr) (c : Nat) (vs : List (Int × Int)) (w : World) (hr : Rd w w.heap.size A vs) (hn : vs.length ≤ 1048576) :
    Calls Try.prog 26 #[.agg #[.int .i64 k, .int .i64 v, .int .i64 x, .int .i64 a, .int .i64 b, .slice A vs.length c]] w fun e w' =>
      ∃ g, e = .returned (.agg #[.int .i64 k, .int .i64 v, .int .i64 x, .int .i64 a, .int .i64 b, .slice (some ⟨g, 0, none⟩) vs.length vs.length]) ∧ Rd w' w'.heap.size (some ⟨g, 0, none⟩) vs ∧ Below w.heap.size w w' := by
  refine (toMsg_any k v x a b A c vs w hr hn).mono ?_
  rintro e w' ⟨g, cs, rfl, hg, hk, hp, hb⟩
  exact ⟨g, rfl, hp.rd hk hk.lt, hb⟩
set_option maxHeartbeats 6400000 in
theorem walk0 (q : Rq) (k_ v_ x_ a_ b_ : Int) (A_ : Option Addr) (c_ : Nat) (vs : List (Int × Int)) (z : Bool) (w : World) (hL : LensQ q) (hr : RdQ w w.heap.size q) (hm : vs.length ≤ maxLen) (hrm : Rd w w.heap.size A_ vs)
    (hsp : FewQ q → vs.length ≤ 1048576 → ∀ (p : Rq) (B : Option Addr) (d : Nat) (W : World), p.dat = q.dat → FewQ p → RdQ W W.heap.size p → Rd W W.heap.size B vs → Calls Try.prog 25 #[p.agg, .agg #[.int .i64 k_, .int .i64 v_, .int .i64 x_, .int .i64 a_, .int .i64 b_, .slice B vs.length d]] W fun e w' => e = .returned (.bool z) ∧ Below W.heap.size W w')
    (him : FewQ q → vs.length ≤ 1048576 → ∀ (p : Rq) (B : Option Addr) (d : Nat) (W : World), p.dat = q.dat → FewQ p → RdQ W W.heap.size p → Rd W W.heap.size B vs → Calls Try.prog 27 #[p.agg, .agg #[.int .i64 k_, .int .i64 v_, .int .i64 x_, .int .i64 a_, .int .i64 b_, .slice B vs.length d]] W fun e w' => e = .returned (.bool z) ∧ Below W.heap.size W w') :
    Calls Try.prog 6 #[q.agg, .agg #[.int .i64 k_, .int .i64 v_, .int .i64 x_, .int .i64 a_, .int .i64 b_, .slice A_ vs.length c_]] w fun e w' => e = .returned (.bool true) ∧ Below w.heap.size w w' := by
  have hsz0 := fun (W : World) (h : Below w.heap.size w W) => szRep_any q 1048576 W ((hr.below h).more h.size).h hL (by omega) (by omega)
  have hB2 := up_ (up_ (Below.refl w.heap.size w) (.cells q.cells 30)) (.cells #[.int .i64 k_, .int .i64 v_, .int .i64 x_, .int .i64 a_, .int .i64 b_, .slice A_ vs.length c_] 57)
  have hsz := hsz0 _ hB2
  clear hsz0
  by_cases hn : (1048576 : Int) < (tot q : Int)
  · rw [if_pos hn] at hsz
    have H1 := Lib.hid hsz
    obtain ⟨ln, eln⟩ : ∃ m, vs.length = m := ⟨_, rfl⟩
    rw [eln] at H1 hB2 ⊢
    clear hsp him hsz hr hL hn hm hrm eln
    have ka := (Blk.new w 30 q.cells).alloc (.cells #[.int .i64 k_, .int .i64 v_, .int .i64 x_, .int .i64 a_, .int .i64 b_, .slice A_ ln c_] 57)
    obtain ⟨n, id, own, view, left, voted, lv, lx, dn, pr, vo, re, ds, hs, Av, Ap, Ao, Ar, Ad, Ah, cv, cp, co, cr, cd, ch⟩ := q
    simp only [Rq.agg, Rq.cells] at *
    have ra := ka.rule
    go_enter Try.func6, Try.ntmps6
    go_wp2_with fail
    refine H1.out.mono ?_
    rintro e w1 ⟨rfl, hb1⟩
    have hB1 := on_ hB2 hb1
    clear ra ka hB2 hb1
    go_wp2
    go_ret
    exact ⟨rfl, hB1⟩
  rw [if_neg hn] at hsz
  have hfew : FewQ q := fewQ_of (by omega)
  obtain ⟨y, hy⟩ : ∃ y : Int, 1048576 - (tot q : Int) = y := ⟨_, rfl⟩
  rw [hy] at hsz
  have hy0 : 0 ≤ y := by omega
  have hy1 : ¬ y < 0 := by omega
  have hy2 : y ≤ 1048576 := by omega
  clear hy
  have H1 := Lib.hid hsz; clear hsz hn hL
  have hszm := fun W => szMsg_any k_ v_ x_ a_ b_ A_ vs.length c_ y W hm hy0 hy2
  by_cases hn2 : y < (vs.length : Int)
  · simp only [if_pos hn2] at hszm
    obtain ⟨ln, eln⟩ : ∃ m, vs.length = m := ⟨_, rfl⟩
    rw [eln] at H1 hB2 hszm ⊢
    have H2 := Lib.hid hszm
    clear hsp him hszm hr hfew hn2 hm hrm eln
    have ka := (Blk.new w 30 q.cells).alloc (.cells #[.int .i64 k_, .int .i64 v_, .int .i64 x_, .int .i64 a_, .int .i64 b_, .slice A_ ln c_] 57)
    have kc := Blk.new (w.alloc (.cells q.cells 30)) 57 #[.int .i64 k_, .int .i64 v_, .int .i64 x_, .int .i64 a_, .int .i64 b_, .slice A_ ln c_]
    simp only [World.size_alloc] at kc
    obtain ⟨n, id, own, view, left, voted, lv, lx, dn, pr, vo, re, ds, hs, Av, Ap, Ao, Ar, Ad, Ah, cv, cp, co, cr, cd, ch⟩ := q
    simp only [Rq.agg, Rq.cells] at *
    have ra := ka.rule; have rc := kc.rule
    go_enter Try.func6, Try.ntmps6
    go_wp2_with fail
    refine H1.out.mono ?_
    rintro e w1 ⟨rfl, hb1⟩
    have hB1 := on_ hB2 hb1
    have kc1 := kc.on hb1; have rc1 := kc1.rule
    clear ra ka hB2 hb1 rc kc
    go_wp2_with fail
    refine (H2.out _).mono ?_
    rintro e w2 ⟨rfl, hb2⟩
    have hB3 := on_ hB1 hb2
    clear rc1 kc1 hB1 hb2
    go_wp2
    go_ret
    exact ⟨rfl, hB3⟩
  · simp only [if_neg hn2] at hszm
    have hn' : vs.length ≤ 1048576 := by omega
    obtain ⟨y2, hy3⟩ : ∃ y2 : Int, y - (vs.length : Int) = y2 := ⟨_, rfl⟩
    rw [hy3] at hszm
    have hy4 : ¬ y2 < 0 := by omega
    have HSP := Lib.hid (fun p B d => hsp hfew hn' p B d); have HIM := Lib.hid (fun p B d => him hfew hn' p B d); clear hsp him
    have HT := Lib.hid (fun (W : World) (h : Below w.heap.size w W) => toRep_any q W ((hr.below h).more h.size) hfew)
    have HTM := Lib.hid (fun (W : World) (h : Below w.heap.size w W) => toMsg_rd k_ v_ x_ a_ b_ A_ c_ vs W ((hrm.below h).more h.size) hn')
    have HE := Lib.hid (fun (a b : Rq) (ha : a.dat = q.dat) (hb : b.dat = q.dat) (W : World) (h1 : RdQ W W.heap.size a) (h2 : RdQ W W.heap.size b) => eqRep_same a b (hb.trans ha.symm) W h1 h2 (hfew.same ha))
    have HEM := Lib.hid (fun (B D : Option Addr) (c d : Nat) (W : World) (h1 : Rd W W.heap.size B vs) (h2 : Rd W W.heap.size D vs) => eqMsg_same k_ v_ x_ a_ b_ B D c d vs W h1 h2 hn')
    have HF := Lib.hid (fun (a : Rq) (ha : a.dat = q.dat) => hfew.same ha)
    obtain ⟨ln, eln⟩ : ∃ m, vs.length = m := ⟨_, rfl⟩
    rw [eln] at H1 hB2 hszm HSP HIM HTM HEM ⊢
    have H2 := Lib.hid hszm
    have HB0 := Lib.hid hB2
    have ka0 := (Blk.new w 30 q.cells).alloc (.cells #[.int .i64 k_, .int .i64 v_, .int .i64 x_, .int .i64 a_, .int .i64 b_, .slice A_ ln c_] 57)
    have kc0 := Blk.new (w.alloc (.cells q.cells 30)) 57 #[.int .i64 k_, .int .i64 v_, .int .i64 x_, .int .i64 a_, .int .i64 b_, .slice A_ ln c_]
    simp only [World.size_alloc] at kc0
    clear hfew hr hszm hm hrm hn2 hy3 hn' hB2
    have ELN := Lib.hid eln; clear eln
    have hnq : (z != z) = false := by simp
    obtain ⟨V, hV⟩ : ∃ V, q = V := ⟨_, rfl⟩
    obtain ⟨n, id, own, view, left, voted, lv, lx, dn, pr, vo, re, ds, hs, Av, Ap, Ao, Ar, Ad, Ah, cv, cp, co, cr, cd, ch⟩ := q
    simp only [Rq.agg, Rq.cells] at *
    have rka0 := ka0.rule; have rkc0 := kc0.rule
    go_enter Try.func6, Try.ntmps6
    go_wp2_with fail
    refine (H1.out).mono ?_
    rintro e w1 ⟨rfl, hb⟩
    have HB1 := Lib.hid (on_ HB0.out hb)
    have ka1 := ka0.on hb
    have kc1 := kc0.on hb
    clear HB0 ka0 kc0 rka0 rkc0
    have rka1 := ka1.rule
    have rkc1 := kc1.rule
    clear hb
    clear H1
    go_wp2_with fail
    refine (H2.out _).mono ?_
    rintro e w2 ⟨rfl, hb⟩
    have HB2 := Lib.hid (on_ HB1.out hb)
    have ka2 := ka1.on hb
    have kc2 := kc1.on hb
    clear HB1 ka1 kc1 rka1 rkc1
    have rka2 := ka2.rule
    have rkc2 := kc2.rule
    clear hb
    clear H2
    go_wp2
    go_region_held3 (fun w' => (∀ i, w'.cell? ⟨w.heap.size, i, none⟩ = (#[.int .i64 n, .int .i64 id, .int .i64 own, .int .i64 view, .int .i64 left, .slice Av voted.length cv, .int .i64 lv, .int .i64 lx, .int .i64 dn, .slice Ap pr.length cp, .slice Ao vo.length co, .slice Ar re.length cr, .slice Ad ds.length cd, .slice Ah hs.length ch] : Array Value)[i]?) ∧ (∀ i, w'.cell? ⟨w.heap.size + 1, i, none⟩ = (#[.int .i64 k_, .int .i64 v_, .int .i64 x_, .int .i64 a_, .int .i64 b_, .slice A_ ln c_] : Array Value)[i]?))
      (first | exact ⟨ka5.rule, kc5.rule⟩ | exact ⟨ka4.rule, kc4.rule⟩ | exact ⟨ka3.rule, kc3.rule⟩ | exact ⟨rka2, rkc2⟩)
      (first
        | (go_at_call 10; refine (HT.out _ (by exact HB2.out.drew)).mono ?_; rintro e w3 ⟨⟨n3, id3, own3, view3, left3, voted3, lv3, lx3, dn3, pr3, vo3, re3, ds3, hs3, Av3, Ap3, Ao3, Ar3, Ad3, Ah3, cv3, cp3, co3, cr3, cd3, ch3⟩, rfl, hd, hrq, hb⟩; have ka3 : Blk w3 _ _ _ := Blk.on (w := w2.drew) ka2 hb; have kc3 : Blk w3 _ _ _ := Blk.on (w := w2.drew) kc2 hb; have HD3 := Lib.hid hd; have HQ3 := Lib.hid hrq; have HB3 := Lib.hid (on_ (HB2.out).drew hb); clear hd hrq hb)
        | (go_at_call 26; refine (HTM.out _ HB3.out).mono ?_; rintro e w4 ⟨g4, rfl, hv4, hb⟩; have ka4 : Blk w4 _ _ _ := Blk.on ka3 hb; have kc4 : Blk w4 _ _ _ := Blk.on kc3 hb; have HQ4 := Lib.hid (HQ3.out.on hb); have HV4 := Lib.hid hv4; have HB4 := Lib.hid (on_ HB3.out hb); clear hv4 hb)
        | (go_at_call 25; refine (HSP.out _ _ _ w4 HD3.out (HF.out _ HD3.out) HQ4.out HV4.out).mono ?_; rintro e w5 ⟨rfl, hb⟩; have ka5 : Blk w5 _ _ _ := Blk.on ka4 hb; have kc5 : Blk w5 _ _ _ := Blk.on kc4 hb; have HB5 := Lib.hid (on_ HB4.out hb); clear hb))
    clear ka2 kc2 ka3 kc3 ka4 kc4 HB2 HB3 HB4 HQ3 HQ4 HV4 HD3 rka2 rkc2
    have rka5 := ka5.rule; have rkc5 := kc5.rule
    go_wp2_with fail
    refine (HT.out w5 HB5.out).mono ?_
    rintro e w6 ⟨⟨n6, id6, own6, view6, left6, voted6, lv6, lx6, dn6, pr6, vo6, re6, ds6, hs6, Av6, Ap6, Ao6, Ar6, Ad6, Ah6, cv6, cp6, co6, cr6, cd6, ch6⟩, rfl, hd6, hrq6, hb⟩
    have HB6 := Lib.hid (on_ HB5.out hb)
    have ka6 := ka5.on hb
    have kc6 := kc5.on hb
    clear HB5 ka5 kc5 rka5 rkc5
    have rka6 := ka6.rule
    have rkc6 := kc6.rule
    clear hb
    dsimp only
    have HD6 := Lib.hid hd6; have HQ6 := Lib.hid hrq6; clear hd6 hrq6
    have kx6b := Blk.new w6 40 #[.int .i64 n6, .int .i64 id6, .int .i64 own6, .int .i64 view6, .int .i64 left6, .slice Av6 voted6.length cv6, .int .i64 lv6, .int .i64 lx6, .int .i64 dn6, .slice Ap6 pr6.length cp6, .slice Ao6 vo6.length co6, .slice Ar6 re6.length cr6, .slice Ad6 ds6.length cd6, .slice Ah6 hs6.length ch6]
    have HB6b := Lib.hid (up_ HB6.out (.cells #[.int .i64 n6, .int .i64 id6, .int .i64 own6, .int .i64 view6, .int .i64 left6, .slice Av6 voted6.length cv6, .int .i64 lv6, .int .i64 lx6, .int .i64 dn6, .slice Ap6 pr6.length cp6, .slice Ao6 vo6.length co6, .slice Ar6 re6.length cr6, .slice Ad6 ds6.length cd6, .slice Ah6 hs6.length ch6] 40))
    have ka6b := ka6.alloc (.cells #[.int .i64 n6, .int .i64 id6, .int .i64 own6, .int .i64 view6, .int .i64 left6, .slice Av6 voted6.length cv6, .int .i64 lv6, .int .i64 lx6, .int .i64 dn6, .slice Ap6 pr6.length cp6, .slice Ao6 vo6.length co6, .slice Ar6 re6.length cr6, .slice Ad6 ds6.length cd6, .slice Ah6 hs6.length ch6] 40)
    have kc6b := kc6.alloc (.cells #[.int .i64 n6, .int .i64 id6, .int .i64 own6, .int .i64 view6, .int .i64 left6, .slice Av6 voted6.length cv6, .int .i64 lv6, .int .i64 lx6, .int .i64 dn6, .slice Ap6 pr6.length cp6, .slice Ao6 vo6.length co6, .slice Ar6 re6.length cr6, .slice Ad6 ds6.length cd6, .slice Ah6 hs6.length ch6] 40)
    have HQ6b := Lib.hid (HQ6.out.up (.cells #[.int .i64 n6, .int .i64 id6, .int .i64 own6, .int .i64 view6, .int .i64 left6, .slice Av6 voted6.length cv6, .int .i64 lv6, .int .i64 lx6, .int .i64 dn6, .slice Ap6 pr6.length cp6, .slice Ao6 vo6.length co6, .slice Ar6 re6.length cr6, .slice Ad6 ds6.length cd6, .slice Ah6 hs6.length ch6] 40))
    have rka6b := ka6b.rule
    have rkc6b := kc6b.rule
    have rkx6b := kx6b.rule
    go_wp2_with fail
    clear rka6b rkc6b rkx6b
    clear HB6 ka6 kc6 HQ6 rka6 rkc6
    have HB6 := HB6b; clear HB6b
    have ka6 := ka6b; clear ka6b
    have kc6 := kc6b; clear kc6b
    have HQ6 := HQ6b; clear HQ6b
    have kx6 := kx6b; clear kx6b
    have rka6 := ka6.rule
    have rkc6 := kc6.rule
    have rkx6 := kx6.rule
    refine (HTM.out _ HB6.out).mono ?_
    rintro e w7 ⟨g7, rfl, hv7, hb⟩
    have HB7 := Lib.hid (on_ HB6.out hb)
    have ka7 := ka6.on hb
    have kc7 := kc6.on hb
    have HQ7 := Lib.hid (HQ6.out.on hb)
    have kx7 := kx6.on hb
    clear HB6 ka6 kc6 HQ6 kx6 rka6 rkc6 rkx6
    have rka7 := ka7.rule
    have rkc7 := kc7.rule
    have rkx7 := kx7.rule
    clear hb
    have HV7 := Lib.hid hv7; clear hv7
    dsimp only
    have ky7b := Blk.new w7 45 #[.int .i64 k_, .int .i64 v_, .int .i64 x_, .int .i64 a_, .int .i64 b_, .slice (some ⟨g7, 0, none⟩) ln ln]
    have HB7b := Lib.hid (up_ HB7.out (.cells #[.int .i64 k_, .int .i64 v_, .int .i64 x_, .int .i64 a_, .int .i64 b_, .slice (some ⟨g7, 0, none⟩) ln ln] 45))
    have ka7b := ka7.alloc (.cells #[.int .i64 k_, .int .i64 v_, .int .i64 x_, .int .i64 a_, .int .i64 b_, .slice (some ⟨g7, 0, none⟩) ln ln] 45)
    have kc7b := kc7.alloc (.cells #[.int .i64 k_, .int .i64 v_, .int .i64 x_, .int .i64 a_, .int .i64 b_, .slice (some ⟨g7, 0, none⟩) ln ln] 45)
    have HQ7b := Lib.hid (HQ7.out.up (.cells #[.int .i64 k_, .int .i64 v_, .int .i64 x_, .int .i64 a_, .int .i64 b_, .slice (some ⟨g7, 0, none⟩) ln ln] 45))
    have kx7b := kx7.alloc (.cells #[.int .i64 k_, .int .i64 v_, .int .i64 x_, .int .i64 a_, .int .i64 b_, .slice (some ⟨g7, 0, none⟩) ln ln] 45)
    have HV7b := Lib.hid (HV7.out.up (.cells #[.int .i64 k_, .int .i64 v_, .int .i64 x_, .int .i64 a_, .int .i64 b_, .slice (some ⟨g7, 0, none⟩) ln ln] 45))
    have rka7b := ka7b.rule
    have rkc7b := kc7b.rule
    have rkx7b := kx7b.rule
    have rky7b := ky7b.rule
    go_wp2_with fail
    clear rka7b rkc7b rkx7b rky7b
    clear HB7 ka7 kc7 HQ7 kx7 HV7 rka7 rkc7 rkx7
    have HB7 := HB7b; clear HB7b
    have ka7 := ka7b; clear ka7b
    have kc7 := kc7b; clear kc7b
    have HQ7 := HQ7b; clear HQ7b
    have kx7 := kx7b; clear kx7b
    have HV7 := HV7b; clear HV7b
    have ky7 := ky7b; clear ky7b
    have rka7 := ka7.rule
    have rkc7 := kc7.rule
    have rkx7 := kx7.rule
    have rky7 := ky7.rule
    refine (HIM.out _ _ _ _ HD6.out (HF.out _ HD6.out) HQ7.out HV7.out).mono ?_
    rintro e w8 ⟨rfl, hb⟩
    have HB8 := Lib.hid (on_ HB7.out hb)
    have ka8 := ka7.on hb
    have kc8 := kc7.on hb
    have HQ8 := Lib.hid (HQ7.out.on hb)
    have kx8 := kx7.on hb
    have HV8 := Lib.hid (HV7.out.on hb)
    have ky8 := ky7.on hb
    clear HB7 ka7 kc7 HQ7 kx7 HV7 ky7 rka7 rkc7 rkx7 rky7
    have rka8 := ka8.rule
    have rkc8 := kc8.rule
    have rkx8 := kx8.rule
    have rky8 := ky8.rule
    clear hb
    go_wp2
    go_region_held3 (fun w' => (∀ i, w'.cell? ⟨w6.heap.size, i, none⟩ = (#[.int .i64 n6, .int .i64 id6, .int .i64 own6, .int .i64 view6, .int .i64 left6, .slice Av6 voted6.length cv6, .int .i64 lv6, .int .i64 lx6, .int .i64 dn6, .slice Ap6 pr6.length cp6, .slice Ao6 vo6.length co6, .slice Ar6 re6.length cr6, .slice Ad6 ds6.length cd6, .slice Ah6 hs6.length ch6] : Array Value)[i]?) ∧ (∀ i, w'.cell? ⟨w.heap.size, i, none⟩ = (#[.int .i64 n, .int .i64 id, .int .i64 own, .int .i64 view, .int .i64 left, .slice Av voted.length cv, .int .i64 lv, .int .i64 lx, .int .i64 dn, .slice Ap pr.length cp, .slice Ao vo.length co, .slice Ar re.length cr, .slice Ad ds.length cd, .slice Ah hs.length ch] : Array Value)[i]?))
      (first | exact ⟨kx10.rule, ka10.rule⟩ | exact ⟨kx9.rule, ka9.rule⟩ | exact ⟨rkx8, rka8⟩)
      (first
        | (go_at_call 10; refine (HT.out _ (by exact HB8.out.drew)).mono ?_; rintro e w9 ⟨⟨n9, id9, own9, view9, left9, voted9, lv9, lx9, dn9, pr9, vo9, re9, ds9, hs9, Av9, Ap9, Ao9, Ar9, Ad9, Ah9, cv9, cp9, co9, cr9, cd9, ch9⟩, rfl, hd, hrq, hb⟩; have ka9 : Blk w9 _ _ _ := Blk.on (w := w8.drew) ka8 hb; have kc9 : Blk w9 _ _ _ := Blk.on (w := w8.drew) kc8 hb; have kx9 : Blk w9 _ _ _ := Blk.on (w := w8.drew) kx8 hb; have ky9 : Blk w9 _ _ _ := Blk.on (w := w8.drew) ky8 hb; have HD9 := Lib.hid hd; have HQ9_ := Lib.hid hrq; have HQ9 := Lib.hid (RdQ.on (w := w8.drew) (dr_ HQ8.out) hb); have HV9 := Lib.hid (Rd.on (w := w8.drew) HV8.out hb); have HB9 := Lib.hid (on_ (HB8.out).drew hb); clear hd hrq hb)
        | (go_at_call 12; refine (HE.out _ _ HD6.out HD9.out _ HQ9.out HQ9_.out).mono ?_; rintro e w10 ⟨rfl, hb⟩; have ka10 : Blk w10 _ _ _ := Blk.on ka9 hb; have kc10 : Blk w10 _ _ _ := Blk.on kc9 hb; have kx10 : Blk w10 _ _ _ := Blk.on kx9 hb; have ky10 : Blk w10 _ _ _ := Blk.on ky9 hb; have HV10 := Lib.hid (HV9.out.on hb); have HB10 := Lib.hid (on_ HB9.out hb); clear hb))
    clear ka8 kc8 kx8 ky8 rka8 rkc8 rkx8 rky8 HB8 HV8 HQ8 ka9 kc9 kx9 ky9 HB9 HQ9 HV9 HD9 HQ9_
    have rkc10 := kc10.rule; have rky10 := ky10.rule
    go_wp2
    go_region_held3 (fun w' => (∀ i, w'.cell? ⟨w7.heap.size, i, none⟩ = (#[.int .i64 k_, .int .i64 v_, .int .i64 x_, .int .i64 a_, .int .i64 b_, .slice (some ⟨g7, 0, none⟩) ln ln] : Array Value)[i]?) ∧ (∀ i, w'.cell? ⟨w.heap.size + 1, i, none⟩ = (#[.int .i64 k_, .int .i64 v_, .int .i64 x_, .int .i64 a_, .int .i64 b_, .slice A_ ln c_] : Array Value)[i]?))
      (first | exact ⟨ky12.rule, kc12.rule⟩ | exact ⟨ky11.rule, kc11.rule⟩ | exact ⟨rky10, rkc10⟩)
      (first
        | (go_at_call 26; refine (HTM.out _ (by exact HB10.out.drew)).mono ?_; rintro e w11 ⟨g11, rfl, hv11, hb⟩; have kc11 : Blk w11 _ _ _ := Blk.on (w := w10.drew) kc10 hb; have ky11 : Blk w11 _ _ _ := Blk.on (w := w10.drew) ky10 hb; have HV11 := Lib.hid (Rd.on (w := w10.drew) HV10.out hb); have HV11_ := Lib.hid hv11; have HB11 := Lib.hid (on_ (HB10.out).drew hb); clear hv11 hb)
        | (go_at_call 15; refine (HEM.out _ _ _ _ _ HV11.out HV11_.out).mono ?_; rintro e w12 ⟨rfl, hb⟩; have kc12 : Blk w12 _ _ _ := Blk.on kc11 hb; have ky12 : Blk w12 _ _ _ := Blk.on ky11 hb; have HB12 := Lib.hid (on_ HB11.out hb); clear hb))
    go_wp2
    go_ret
    exact ⟨rfl, HB12.out⟩
theorem walk (q : Rq) (k_ v_ x_ a_ b_ : Int) (A_ : Option Addr) (c_ : Nat) (vs : List (Int × Int)) (w : World) (hL : LensQ q) (hr : RdQ w w.heap.size q) (hm : vs.length ≤ maxLen) (hrm : Rd w w.heap.size A_ vs) :
    Calls Try.prog 6 #[q.agg, .agg #[.int .i64 k_, .int .i64 v_, .int .i64 x_, .int .i64 a_, .int .i64 b_, .slice A_ vs.length c_]] w fun e w' => e = .returned (.bool true) ∧ Below w.heap.size w w' :=
  walk0 q k_ v_ x_ a_ b_ A_ c_ vs (tellQ q.dat k_ v_ x_ a_ b_ vs) w hL hr hm hrm (fun _ hn p B d W e hf h h2 => by have h9 := specTell_is p k_ v_ x_ a_ b_ B d vs W h hf h2 hn; rwa [e] at h9) (fun _ hn p B d W e hf h h2 => by have h9 := implTell_is p k_ v_ x_ a_ b_ B d vs W h hf h2 hn; rwa [e] at h9)

theorem closed : joinedFacts Try.prog 6 Try.f6 Rows.fnExactTellOfSpec Rows.fnExactTellOfRow = true := by
  unfold joinedFacts
  rw [D.make_is, D.enter_is, D.final_is]
  kernel_rfl

set_option maxRecDepth 100000 in
theorem lifted (os : Os) (started : os.Started) (H : Type) (enc : TypeId × Value → H) :
    ReturnsInHanded {} Try.checked os 6 .any (Rows.fnExactTellOfSpec.pre6 enc Try.prog Try.f6 Rows.fnExactTellOfRow.domain false) (Rows.fnExactTellOfSpec.post enc Try.prog Try.f6 false true false false) := by
  refine returnsInHanded_of_change (C := Try.checked) D.own started (by kernel_rfl) Try.func6
    (ChangeSpec.witness6 (enc := enc) (C := Try.checked) false ⟨#[], #[.agg #[.int .i64 0, .int .i64 0, .int .i64 0, .int .i64 0, .int .i64 0, .slice none 0 0, .int .i64 0, .int .i64 0, .int .i64 0, .slice none 0 0, .slice none 0 0, .slice none 0 0, .slice none 0 0, .slice none 0 0], .agg #[.int .i64 0, .int .i64 0, .int .i64 0, .int .i64 0, .int .i64 0, .slice none 0 0]], []⟩ 8 (by kernel_rfl) (by kernel_rfl) (by kernel_rfl) (by kernel_rfl)) ?_
  intro W base args ds gs before hval0 hW hcnd _
  have hval : ∀ (j : Nat) t v, Try.f6.params[j]? = some t → args[j]? = some v → Value.okWide Try.prog W .any base t v := hval0
  have hW' := hW
  obtain ⟨p, q, hA0, hV, rfl, hfz, hnd⟩ := hW
  have hA : DataW.TrodAll enc Try.prog W 0 (fun _ => true) true Try.f6.params.toList args.toList ds p := hA0
  rw [Try.params6] at hA hval
  obtain ⟨v0, v1, d0, d1, p0, p1, rfl, rfl, rfl, h0, h1⟩ := trodAll_two hA
  obtain ⟨cs0, rfl, hsz0⟩ := okWide_struct Try.underlying30 (hval 0 30 v0 rfl rfl)
  obtain ⟨cs1, rfl, hsz1⟩ := okWide_struct Try.underlying57 (hval 1 57 v1 rfl rfl)
  obtain ⟨fuel0, hf0⟩ := h0
  obtain ⟨fuel1, hf1⟩ := h1
  obtain ⟨z, hcs0, hLz, hrz⟩ := open_rep hf0
  obtain rfl : cs0 = z.cells := by
    obtain ⟨l⟩ := cs0
    have h : l = z.cells.toList := hcs0
    rw [h]
  obtain ⟨km, vm, xm, am, bm, Am, cm, sm, hcs1, hmm, hrm⟩ := open_msg hf1
  obtain rfl : cs1 = #[.int .i64 km, .int .i64 vm, .int .i64 xm, .int .i64 am, .int .i64 bm, .slice Am sm.length cm] := by
    obtain ⟨l⟩ := cs1
    simpa [Value.cells] using hcs1
  refine (walk z km vm xm am bm Am cm sm W hLz hrz hmm hrm).mono fun e W' ⟨he, hb⟩ => ⟨_, he, law_post D.laidOut hW' hb rfl (by kernel_rfl) Try.underlying4 (by kernel_rfl) rfl⟩

theorem over : Rows.fnExactTellOfRow.holds Try.pinned (OpenSpec.ofChange Rows.fnExactTellOfSpec) :=
  OpenClaim.holds_of_wide 6 Try.f6 rfl rfl rfl rfl rfl rfl rfl ⟨rfl, rfl, rfl, rfl, rfl⟩ rfl rfl rfl rfl rfl (by kernel_rfl) Try.func6 closed
    (of_decide_eq_true (by kernel_rfl)) (by unfold Func.isWrapper; first | (rw [if_pos (by decide +kernel)]; kernel_rfl) | (rw [if_neg (by decide +kernel)]; exact ⟨rfl, rfl⟩))
    (fun os started H enc _ => lifted os started H enc)

theorem proved : Rows.FnExactTellOfSaid :=
  over
end Go.Proofs.Ytfdfjmibjnmhpaa.fnExactTellOf
