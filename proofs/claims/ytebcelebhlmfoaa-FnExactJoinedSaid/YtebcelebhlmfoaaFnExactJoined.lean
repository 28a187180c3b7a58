/-
  Proved here: for whatever two tallies, Joined of the program answers as Joined of the model; the tallies read afterwards as before, and the answer owns its memory. No condition.
-/
import Derived.Test.YtebcelebhlmfoaaRows
import Derived.Test.YtebcelebhlmfoaaJoined
import Derived.Test.YtebcelebhlmfoaaOwnT
import Derived.Test.YtebcelebhlmfoaaLift3
import Derived.Test.YtebcelebhlmfoaaImplAdd
import Derived.Deep.RegionHeld3
import Derived.Deep.CutRange
set_option linter.unusedVariables false
namespace Go.Proofs.Ytebcelebhlmfoaa.fnExactJoined
open Go.RowKit Go.ChangeShapes Go.WideShapes Go.Proofs.Ytebcelebhlmfoaa.B Go.Proofs.Ytebcelebhlmfoaa.V

theorem keep_ {w w' : World} {g : Nat} {t : TypeId} {cs : Array Value} {row : Option Nat} (h : Blk w g t cs) (hgr : w.grownBy w' row) (hne : row ≠ some g) : Blk w' g t cs := (hgr.block g h.lt (fun e => hne e.symm)).trans h
theorem keepB {w w' : World} {base : Nat} {row : Option Nat} (hgr : w.grownBy w' row) (hg : ∀ g, row = some g → base ≤ g) (hw : base ≤ w.heap.size) : Below base w w' :=
  ⟨hgr.os, hgr.tape, hgr.output, hgr.size, fun i hi => hgr.block i (by omega) (fun e => by have := hg i e.symm; omega)⟩
theorem Blk.up {w : World} {b : Nat} {t : TypeId} {cs : Array Value} (h : Blk w b t cs) (O : Obj) : Blk (w.alloc O) b t cs := h.alloc O
theorem Blk.dr {w : World} {b : Nat} {t : TypeId} {cs : Array Value} (h : Blk w b t cs) : Blk w.drew b t cs := h
theorem Blk.six {w : World} {b s : Nat} {t : TypeId} {cs : Array Value} (h : Blk w b t cs) (hne : b ≠ s) (u0 : Value) : Blk (w.setCell ⟨s, 0, none⟩ u0) b t cs := h.far (by exact hne) _
def Made (w0 : World) (us : List B3) (q : Bool) (s6 s7 : Value) (wx : World) : Prop :=
  ∃ s B d, s6 = .pointer (some ⟨s, 0, none⟩) ∧ s7 = .bool q ∧ Blk wx s 31 #[.slice B us.length d] ∧ OT wx 39 w0.heap.size B us ∧ (∀ g, B = some ⟨g, 0, none⟩ → g ≠ s) ∧ w0.heap.size ≤ s ∧ Below w0.heap.size w0 wx
theorem made_late {w0 wd : World} {us : List B3} {q : Bool} {B : Option Addr} {d base : Nat} (hB : Below w0.heap.size w0 wd) (ho : OT wd 39 base B us) (hb : w0.heap.size ≤ base) :
    Made w0 us q (.pointer (some ⟨wd.heap.size, 0, none⟩)) (.bool q) (wd.alloc (.cells #[.slice B us.length d] 31)) :=
  ⟨_, B, d, rfl, rfl, Blk.new _ _ _, (ho.up _).more hb, fun g e => by have := ho.lt g e; omega, hB.size, up_ hB _⟩
theorem made_early {w0 wd : World} {us : List B3} {q : Bool} {B : Option Addr} {d base s : Nat} (hz : Blk wd s 31 #[.slice none 0 0]) (hs : w0.heap.size ≤ s) (hB : Below w0.heap.size w0 wd) (ho : OT wd 39 base B us) (hsb : s + 1 ≤ base) (hb : w0.heap.size ≤ base) :
    Made w0 us q (.pointer (some ⟨s, 0, none⟩)) (.bool q) (wd.setCell ⟨s, 0, none⟩ (.slice B us.length d)) :=
  ⟨s, B, d, rfl, rfl, hz.set_ 0 _, OT.more (OT.set_ ho (by show s < base; omega) _) hb, fun g e => by have := ho.ge g e; omega, hs, Below.setCell hB (by show w0.heap.size ≤ s; omega) _⟩

set_option maxRecDepth 100000 in
set_option maxHeartbeats 12800000 in
theorem walk0 (A B : Option Addr) (c d : Nat) (vs xs us : List B3) (q : Bool) (w : World) (hm : vs.length ≤ maxLen) (hmx : xs.length ≤ maxLen) (hul : us.length ≤ 1048576) (hr : Rd3 w w.heap.size A vs) (hy : Rd3 w w.heap.size B xs)
    (hsp : vs.length ≤ 1048576 → xs.length ≤ 1048576 → ∀ (g g' : Nat) (W : World), Rd3 W W.heap.size (some ⟨g, 0, none⟩) vs → Rd3 W W.heap.size (some ⟨g', 0, none⟩) xs → Calls Try.prog 50 #[.agg #[.slice (some ⟨g, 0, none⟩) vs.length vs.length], .agg #[.slice (some ⟨g', 0, none⟩) xs.length xs.length]] W (TG us q W))
    (him : vs.length ≤ 1048576 → xs.length ≤ 1048576 → ∀ (g g' : Nat) (W : World), Rd3 W W.heap.size (some ⟨g, 0, none⟩) vs → Rd3 W W.heap.size (some ⟨g', 0, none⟩) xs → Calls Try.prog 51 #[.agg #[.slice (some ⟨g, 0, none⟩) vs.length vs.length], .agg #[.slice (some ⟨g', 0, none⟩) xs.length xs.length]] W (TG us q W)) :
    Calls Try.prog 15 #[.agg #[.slice A vs.length c], .agg #[.slice B xs.length d]] w fun e w' => e = .returned (.bool true) ∧ Below w.heap.size w w' := by
  have hkm := (Blk.new w 26 #[.slice A vs.length c]).alloc (.cells #[.slice B xs.length d] 26)
  have hkv := Blk.new (w.alloc (.cells #[.slice A vs.length c] 26)) 26 #[.slice B xs.length d]
  simp only [World.size_alloc] at hkv
  by_cases hn : (1048576 : Int) < vs.length
  · go_enter Try.func15, Try.ntmps15
    go_wp2_with fail
    refine (szTally_big A vs.length c _ _ hm (by omega) (by omega) hn).mono ?_
    rintro e w1 ⟨rfl, hb1⟩
    go_wp2
    go_ret
    exact ⟨rfl, on_ (up_ (up_ (Below.refl _ _) _) _) hb1⟩
  have hn' : vs.length ≤ 1048576 := by omega
  have hsz0 := szTally_small A vs.length c 1048576 ((w.alloc (.cells #[.slice A vs.length c] 26)).alloc (.cells #[.slice B xs.length d] 26)) hm (by omega) (by omega) (by omega)
  have HSZ := Lib.hid hsz0; clear hsz0
  by_cases hnx : (1048576 - vs.length : Int) < xs.length
  · go_enter Try.func15, Try.ntmps15
    go_wp2_with fail
    refine HSZ.out.mono ?_
    rintro e w1 ⟨rfl, hb1⟩
    have kv1 := hkv.on hb1
    have rv1 := kv1.rule
    go_wp2_with fail
    refine (szTally_big B xs.length d _ _ hmx (by omega) (by omega) hnx).mono ?_
    rintro e w2 ⟨rfl, hb2⟩
    go_wp2
    go_ret
    exact ⟨rfl, on_ (on_ (up_ (up_ (Below.refl _ _) _) _) hb1) hb2⟩
  · have hx' : xs.length ≤ 1048576 := by omega
    have hszx := fun W => szTally_small B xs.length d (1048576 - vs.length) W hmx (by omega) (by omega) (by omega)
    have HSZX := Lib.hid hszx; clear hszx
    have HSP := Lib.hid (hsp hn' hx'); clear hsp
    have HIM := Lib.hid (him hn' hx'); clear him
    have hnq : (q != q) = false := by simp
    have hr0 := (hr.up (.cells #[.slice A vs.length c] 26)).up (.cells #[.slice B xs.length d] 26)
    have hy0 := (hy.up (.cells #[.slice A vs.length c] 26)).up (.cells #[.slice B xs.length d] 26)
    have HR0 := Lib.hid hr
    have HY0 := Lib.hid hy; clear hr hy hm hmx
    go_enter Try.func15, Try.ntmps15
    go_wp2_with fail
    refine HSZ.out.mono ?_
    rintro e w1 ⟨rfl, hb1⟩
    have km1 := hkm.on hb1
    have kv1 := hkv.on hb1
    have or1 := Rd3.on hr0 hb1
    have oy1 := Rd3.on hy0 hb1
    have hB1 := on_ (up_ (up_ (Below.refl w.heap.size w) _) _) hb1
    clear hkm hkv hr0 hy0 hb1 HSZ
    have rm1 := km1.rule
    have zm1 := km1.lt
    have rv1 := kv1.rule
    have zv1 := kv1.lt
    go_wp2_with fail
    refine (HSZX.out _).mono ?_
    rintro e w2 ⟨rfl, hb2⟩
    have km2 : Blk w2 _ _ _ := Blk.on km1 hb2
    have kv2 : Blk w2 _ _ _ := Blk.on kv1 hb2
    have or2 := Rd3.on or1 hb2
    have oy2 := Rd3.on oy1 hb2
    have hB2 := on_ hB1 hb2
    clear rm1 zm1 rv1 zv1
    clear km1 kv1 or1 oy1 hB1
    clear hb2
    have rm2 := km2.rule
    have zm2 := km2.lt
    have rv2 := kv2.rule
    have zv2 := kv2.lt
    clear HSZX
    have hsv2 := zv2
    go_wp2_with fail
    go_cut [6, 7] from 27 to 34 (fun s6 s7 wx => Made w2 us q s6 s7 wx)
    case first =>
      rename_i J_ K_ hJ_ hK_
      go_region_held3 (fun w' => (∀ i, w'.cell? ⟨w.heap.size, i, none⟩ = (#[.slice A vs.length c] : Array Value)[i]?) ∧ (∀ i, w'.cell? ⟨w.heap.size + 1, i, none⟩ = (#[.slice B xs.length d] : Array Value)[i]?))
        (first | with_reducible exact ⟨(Blk.on km2 hBd).rule, (Blk.on kv2 hBd).rule⟩ | with_reducible exact ⟨(Blk.alloc (Blk.on km2 hBd) _).rule, (Blk.alloc (Blk.on kv2 hBd) _).rule⟩ | with_reducible exact ⟨(Blk.on km2 hBb).rule, (Blk.on kv2 hBb).rule⟩ | with_reducible exact ⟨(Blk.alloc (Blk.on km2 hBb) _).rule, (Blk.alloc (Blk.on kv2 hBb) _).rule⟩ | with_reducible exact ⟨(Blk.on km2 hBa).rule, (Blk.on kv2 hBa).rule⟩ | with_reducible exact ⟨(Blk.alloc (Blk.on km2 hBa) _).rule, (Blk.alloc (Blk.on kv2 hBa) _).rule⟩ | with_reducible exact ⟨(Blk.dr km2).rule, (Blk.dr kv2).rule⟩ | with_reducible exact ⟨(Blk.dr (Blk.alloc km2 _)).rule, (Blk.dr (Blk.alloc kv2 _)).rule⟩ | with_reducible exact ⟨rm2, rv2⟩ | with_reducible exact ⟨(Blk.alloc km2 _).rule, (Blk.alloc kv2 _).rule⟩ | with_reducible exact ⟨(Blk.six (Blk.on km2 hBd) (by omega) _).rule, (Blk.six (Blk.on kv2 hBd) (by omega) _).rule⟩)
        (first
          | (go_at_call 27; refine (toTally_any A c vs _ (by first | with_reducible exact Rd3.dr or2 | with_reducible exact Rd3.dr (Rd3.up or2 _)) hn').mono ?_; rintro e wa ⟨ga, csa, rfl, hga, hqa, hpa, hba⟩; have hBa : Below w2.heap.size w2 wa := (by first | with_reducible exact on_ (Below.refl _ _).drew hba | with_reducible exact on_ (up_ (Below.refl _ _) _).drew hba); have hsza := hBa.size; have hsa : Rd3 wa wa.heap.size _ vs := hpa.rd hqa hqa.lt; have hya : Rd3 wa wa.heap.size B xs := (by first | with_reducible exact Rd3.on (Rd3.dr oy2) hba | with_reducible exact Rd3.on (Rd3.dr (Rd3.up oy2 _)) hba))
          | (go_at_call 27; refine (toTally_any B d xs _ (by first | with_reducible exact hya | with_reducible exact Rd3.up hya _) hx').mono ?_; rintro e wb ⟨gb, csb, rfl, hgb, hqb, hpb, hbb⟩; have hBb : Below w2.heap.size w2 wb := (by first | with_reducible exact on_ hBa hbb | with_reducible exact on_ (up_ hBa _) hbb); have hszb := hBb.size; have hsb : Rd3 wb wb.heap.size _ vs := (by first | with_reducible exact Rd3.on hsa hbb | with_reducible exact Rd3.on (Rd3.up hsa _) hbb); have htb : Rd3 wb wb.heap.size _ xs := hpb.rd hqb hqb.lt)
          | (go_at_call 50; refine (HSP.out _ _ _ (by first | with_reducible exact hsb | with_reducible exact Rd3.up hsb _) (by first | with_reducible exact htb | with_reducible exact Rd3.up htb _)).mono ?_; rintro e wd ⟨Bd, dd, rfl, hod, hbd⟩; have hBd : Below w2.heap.size w2 wd := (by first | with_reducible exact on_ hBb hbd | with_reducible exact on_ (up_ hBb _) hbd); have hszd := hBd.size; first | (have hz0 := (by with_reducible exact (Blk.on (Blk.new wb 31 #[.slice none 0 0]) hbd)); have hz1 : wb.heap.size < wd.heap.size := hz0.lt; have hzb : wb.heap.size + 1 ≤ (wb.alloc (.cells #[.slice none 0 0] 31)).heap.size := (by have := (Blk.new wb 31 #[.slice none 0 0]).lt; simp <;> omega); have rz0 := hz0.rule; have fz0 := fun i => hz0.frozen i) | (have hz0 := (by with_reducible exact (Blk.on (Blk.on (Blk.new wa 31 #[.slice none 0 0]) hbb) hbd)); have hz1 : wa.heap.size < wd.heap.size := hz0.lt; have hzb : wa.heap.size + 1 ≤ wb.heap.size := (by have := (Blk.on (Blk.new wa 31 #[.slice none 0 0]) hbb).lt; simp <;> omega); have rz0 := hz0.rule; have fz0 := fun i => hz0.frozen i) | (have hz0 := (by with_reducible exact (Blk.on (Blk.on (Blk.on (Blk.dr (Blk.new w2 31 #[.slice none 0 0])) hba) hbb) hbd)); have hz1 : w2.heap.size < wd.heap.size := hz0.lt; have hzb : w2.heap.size + 1 ≤ wb.heap.size := (by have := (Blk.on (Blk.on (Blk.dr (Blk.new w2 31 #[.slice none 0 0])) hba) hbb).lt; simp <;> omega); have rz0 := hz0.rule; have fz0 := fun i => hz0.frozen i) | skip))
      all_goals (refine hK_ _ _ (Met.intro (hJ_ _ _ ?_)); (repeat apply Exists.intro); refine ⟨?_, rfl⟩)
      all_goals first
        | (with_reducible refine made_early hz0 ?_ hBd hod hzb ?_) <;> omega
        | (with_reducible refine made_late hBd hod ?_) <;> first | exact hszb | exact Nat.le_refl _ | (simp <;> omega)
    case rest =>
    revert wc
    intro w3 hcut
    obtain ⟨ps, B2, d2, rfl, rfl, ks3, ow3, hne2, hge2, hb3⟩ := hcut
    have km3 : Blk w3 _ _ _ := Blk.on km2 hb3
    have kv3 : Blk w3 _ _ _ := Blk.on kv2 hb3
    have or3 := Rd3.on or2 hb3
    have oy3 := Rd3.on oy2 hb3
    have hB3 := on_ hB2 hb3
    have hsz3 := hb3.size
    clear rm2 zm2 rv2 zv2
    clear km2 kv2 or2 oy2 hB2
    clear hb3
    have rm3 := km3.rule
    have zm3 := km3.lt
    have rv3 := kv3.rule
    have zv3 := kv3.lt
    have rs3 := ks3.rule
    have zs3 := ks3.lt
    have hl3 := ow3.lt
    have hps3 := zs3
    go_wp2_with fail
    refine (toTally_any A c vs _ or3 hn').mono ?_
    rintro e w4 ⟨g4, cs4, rfl, hg4, hq4, hp4, hb4⟩
    have km4 : Blk w4 _ _ _ := Blk.on km3 hb4
    have kv4 : Blk w4 _ _ _ := Blk.on kv3 hb4
    have ks4 : Blk w4 _ _ _ := Blk.on ks3 hb4
    have or4 := Rd3.on or3 hb4
    have oy4 := Rd3.on oy3 hb4
    have ow4 := OT.on ow3 hb4
    have hB4 := on_ hB3 hb4
    clear rm3 zm3 rv3 zv3 rs3 zs3
    clear km3 kv3 ks3 or3 oy3 ow3 hB3
    have ox4 := hp4.rd hq4 hq4.lt
    have op4 := hq4
    clear hb4
    have rm4 := km4.rule
    have zm4 := km4.lt
    have rv4 := kv4.rule
    have zv4 := kv4.lt
    have rs4 := ks4.rule
    have zs4 := ks4.lt
    have hzp4 := op4.lt
    have HPC := Lib.hid (show vs.length * 3 ≤ cs4.size by have := hp4.1; omega)
    clear hp4 hq4
    have kx5 := Blk.new w4 31 #[.slice (some ⟨g4, 0, none⟩) vs.length vs.length]
    have km5 := Blk.alloc km4 (.cells #[.slice (some ⟨g4, 0, none⟩) vs.length vs.length] 31)
    have kv5 := Blk.alloc kv4 (.cells #[.slice (some ⟨g4, 0, none⟩) vs.length vs.length] 31)
    have ks5 := Blk.alloc ks4 (.cells #[.slice (some ⟨g4, 0, none⟩) vs.length vs.length] 31)
    have or5 := Rd3.up or4 (.cells #[.slice (some ⟨g4, 0, none⟩) vs.length vs.length] 31)
    have oy5 := Rd3.up oy4 (.cells #[.slice (some ⟨g4, 0, none⟩) vs.length vs.length] 31)
    have ow5 := OT.up ow4 (.cells #[.slice (some ⟨g4, 0, none⟩) vs.length vs.length] 31)
    have ox5 := Rd3.up ox4 (.cells #[.slice (some ⟨g4, 0, none⟩) vs.length vs.length] 31)
    have op5 := Blk.up op4 (.cells #[.slice (some ⟨g4, 0, none⟩) vs.length vs.length] 31)
    have hB5 := up_ hB4 (.cells #[.slice (some ⟨g4, 0, none⟩) vs.length vs.length] 31)
    have hsz5 : (w4.alloc (.cells #[.slice (some ⟨g4, 0, none⟩) vs.length vs.length] 31)).heap.size = w4.heap.size + 1 := World.size_alloc _ _
    clear km4 kv4 ks4 or4 oy4 ow4 ox4 op4 hB4
    clear rm4 zm4 rv4 zv4 rs4 zs4
    have rrm := km5.rule
    have rrv := kv5.rule
    have rrs := ks5.rule
    go_wp2_with fail
    generalize w4.alloc (.cells #[.slice (some ⟨g4, 0, none⟩) vs.length vs.length] 31) = w5 at *
    clear rrm rrv rrs
    have rm5 := km5.rule
    have zm5 := km5.lt
    have rv5 := kv5.rule
    have zv5 := kv5.lt
    have rs5 := ks5.rule
    have zs5 := ks5.lt
    have rx5 := kx5.rule
    have zx5 := kx5.lt
    have HS5 := Lib.hid hsz5
    have hlt5 : w4.heap.size < w5.heap.size := zx5
    clear hsz5
    refine (toTally_any B d xs _ oy5 hx').mono ?_
    rintro e w6 ⟨g6, cs6, rfl, hg6, hq6, hp6, hb6⟩
    have km6 : Blk w6 _ _ _ := Blk.on km5 hb6
    have kv6 : Blk w6 _ _ _ := Blk.on kv5 hb6
    have ks6 : Blk w6 _ _ _ := Blk.on ks5 hb6
    have kx6 : Blk w6 _ _ _ := Blk.on kx5 hb6
    have or6 := Rd3.on or5 hb6
    have oy6 := Rd3.on oy5 hb6
    have ow6 := OT.on ow5 hb6
    have ox6 := Rd3.on ox5 hb6
    have op6 := Blk.on op5 hb6
    have hB6 := on_ hB5 hb6
    clear rm5 zm5 rv5 zv5 rs5 zs5 rx5 zx5
    clear km5 kv5 ks5 kx5 or5 oy5 ow5 ox5 op5 hB5
    have oz6 := hp6.rd hq6 hq6.lt
    have ok6 := hq6
    clear hb6
    have rm6 := km6.rule
    have zm6 := km6.lt
    have rv6 := kv6.rule
    have zv6 := kv6.lt
    have rs6 := ks6.rule
    have zs6 := ks6.lt
    have rx6 := kx6.rule
    have zx6 := kx6.lt
    have hzk6 := ok6.lt
    have HPX := Lib.hid (show xs.length * 3 ≤ cs6.size by have := hp6.1; omega)
    clear hp6 hq6
    have kz7 := Blk.new w6 31 #[.slice (some ⟨g6, 0, none⟩) xs.length xs.length]
    have km7 := Blk.alloc km6 (.cells #[.slice (some ⟨g6, 0, none⟩) xs.length xs.length] 31)
    have kv7 := Blk.alloc kv6 (.cells #[.slice (some ⟨g6, 0, none⟩) xs.length xs.length] 31)
    have ks7 := Blk.alloc ks6 (.cells #[.slice (some ⟨g6, 0, none⟩) xs.length xs.length] 31)
    have kx7 := Blk.alloc kx6 (.cells #[.slice (some ⟨g6, 0, none⟩) xs.length xs.length] 31)
    have or7 := Rd3.up or6 (.cells #[.slice (some ⟨g6, 0, none⟩) xs.length xs.length] 31)
    have oy7 := Rd3.up oy6 (.cells #[.slice (some ⟨g6, 0, none⟩) xs.length xs.length] 31)
    have ow7 := OT.up ow6 (.cells #[.slice (some ⟨g6, 0, none⟩) xs.length xs.length] 31)
    have ox7 := Rd3.up ox6 (.cells #[.slice (some ⟨g6, 0, none⟩) xs.length xs.length] 31)
    have op7 := Blk.up op6 (.cells #[.slice (some ⟨g6, 0, none⟩) xs.length xs.length] 31)
    have oz7 := Rd3.up oz6 (.cells #[.slice (some ⟨g6, 0, none⟩) xs.length xs.length] 31)
    have ok7 := Blk.up ok6 (.cells #[.slice (some ⟨g6, 0, none⟩) xs.length xs.length] 31)
    have hB7 := up_ hB6 (.cells #[.slice (some ⟨g6, 0, none⟩) xs.length xs.length] 31)
    have hsz7 : (w6.alloc (.cells #[.slice (some ⟨g6, 0, none⟩) xs.length xs.length] 31)).heap.size = w6.heap.size + 1 := World.size_alloc _ _
    clear km6 kv6 ks6 kx6 or6 oy6 ow6 ox6 op6 oz6 ok6 hB6
    clear rm6 zm6 rv6 zv6 rs6 zs6 rx6 zx6
    have rrm := km7.rule
    have rrv := kv7.rule
    have rrs := ks7.rule
    have rrx := kx7.rule
    go_wp2_with fail
    generalize w6.alloc (.cells #[.slice (some ⟨g6, 0, none⟩) xs.length xs.length] 31) = w7 at *
    clear rrm rrv rrs rrx
    have rm7 := km7.rule
    have zm7 := km7.lt
    have rv7 := kv7.rule
    have zv7 := kv7.lt
    have rs7 := ks7.rule
    have zs7 := ks7.lt
    have rx7 := kx7.rule
    have zx7 := kx7.lt
    have rz7 := kz7.rule
    have zz7 := kz7.lt
    have HS7 := Lib.hid hsz7
    have hlt7 : w6.heap.size < w7.heap.size := zz7
    clear hsz7
    refine (HIM.out _ _ _ (by exact ox7) (by exact oz7)).mono ?_
    rintro e w8 ⟨B5, d5, rfl, ho8, hb8⟩
    have km8 : Blk w8 _ _ _ := Blk.on km7 hb8
    have kv8 : Blk w8 _ _ _ := Blk.on kv7 hb8
    have ks8 : Blk w8 _ _ _ := Blk.on ks7 hb8
    have kx8 : Blk w8 _ _ _ := Blk.on kx7 hb8
    have kz8 : Blk w8 _ _ _ := Blk.on kz7 hb8
    have or8 := Rd3.on or7 hb8
    have oy8 := Rd3.on oy7 hb8
    have ow8 := OT.on ow7 hb8
    have ox8 := Rd3.on ox7 hb8
    have op8 := Blk.on op7 hb8
    have oz8 := Rd3.on oz7 hb8
    have ok8 := Blk.on ok7 hb8
    have hB8 := on_ hB7 hb8
    clear rm7 zm7 rv7 zv7 rs7 zs7 rx7 zx7 rz7 zz7
    clear km7 kv7 ks7 kx7 kz7 or7 oy7 ow7 ox7 op7 oz7 ok7 hB7
    have og8 := ho8
    have hsz8 := hb8.size
    clear hb8
    have rm8 := km8.rule
    have zm8 := km8.lt
    have rv8 := kv8.rule
    have zv8 := kv8.lt
    have rs8 := ks8.rule
    have zs8 := ks8.lt
    have rx8 := kx8.rule
    have zx8 := kx8.lt
    have rz8 := kz8.rule
    have zz8 := kz8.lt
    have hne5 : ∀ g, B5 = some ⟨g, 0, none⟩ → g ≠ w8.heap.size := fun g e => by have := og8.lt g e; omega
    clear ho8
    have kg9 := Blk.new w8 31 #[.slice B5 us.length d5]
    have km9 := Blk.alloc km8 (.cells #[.slice B5 us.length d5] 31)
    have kv9 := Blk.alloc kv8 (.cells #[.slice B5 us.length d5] 31)
    have ks9 := Blk.alloc ks8 (.cells #[.slice B5 us.length d5] 31)
    have kx9 := Blk.alloc kx8 (.cells #[.slice B5 us.length d5] 31)
    have kz9 := Blk.alloc kz8 (.cells #[.slice B5 us.length d5] 31)
    have or9 := Rd3.up or8 (.cells #[.slice B5 us.length d5] 31)
    have oy9 := Rd3.up oy8 (.cells #[.slice B5 us.length d5] 31)
    have ow9 := OT.up ow8 (.cells #[.slice B5 us.length d5] 31)
    have ox9 := Rd3.up ox8 (.cells #[.slice B5 us.length d5] 31)
    have op9 := Blk.up op8 (.cells #[.slice B5 us.length d5] 31)
    have oz9 := Rd3.up oz8 (.cells #[.slice B5 us.length d5] 31)
    have ok9 := Blk.up ok8 (.cells #[.slice B5 us.length d5] 31)
    have og9 := OT.up og8 (.cells #[.slice B5 us.length d5] 31)
    have hB9 := up_ hB8 (.cells #[.slice B5 us.length d5] 31)
    have hsz9 : (w8.alloc (.cells #[.slice B5 us.length d5] 31)).heap.size = w8.heap.size + 1 := World.size_alloc _ _
    clear km8 kv8 ks8 kx8 kz8 or8 oy8 ow8 ox8 op8 oz8 ok8 og8 hB8
    clear rm8 zm8 rv8 zv8 rs8 zs8 rx8 zx8 rz8 zz8
    have rrm := km9.rule
    have rrv := kv9.rule
    have rrs := ks9.rule
    have rrx := kx9.rule
    have rrz := kz9.rule
    go_wp2_with fail
    generalize w8.alloc (.cells #[.slice B5 us.length d5] 31) = w9 at *
    clear rrm rrv rrs rrx rrz
    have rm9 := km9.rule
    have zm9 := km9.lt
    have rv9 := kv9.rule
    have zv9 := kv9.lt
    have rs9 := ks9.rule
    have zs9 := ks9.lt
    have rx9 := kx9.rule
    have zx9 := kx9.lt
    have rz9 := kz9.rule
    have zz9 := kz9.lt
    have rg9 := kg9.rule
    have zg9 := kg9.lt
    have HS9 := Lib.hid hsz9
    clear hsz9
    have hog9 := og9.ge
    have hpg9 := zg9
    refine (eqTally_same _ _ _ _ us _ (by exact og9.rd) (by exact ow9.rd) hul).mono ?_
    rintro e w10 ⟨rfl, hb10⟩
    have km10 : Blk w10 _ _ _ := Blk.on km9 hb10
    have kv10 : Blk w10 _ _ _ := Blk.on kv9 hb10
    have ks10 : Blk w10 _ _ _ := Blk.on ks9 hb10
    have kx10 : Blk w10 _ _ _ := Blk.on kx9 hb10
    have kz10 : Blk w10 _ _ _ := Blk.on kz9 hb10
    have kg10 : Blk w10 _ _ _ := Blk.on kg9 hb10
    have or10 := Rd3.on or9 hb10
    have oy10 := Rd3.on oy9 hb10
    have ow10 := OT.on ow9 hb10
    have ox10 := Rd3.on ox9 hb10
    have op10 := Blk.on op9 hb10
    have oz10 := Rd3.on oz9 hb10
    have ok10 := Blk.on ok9 hb10
    have og10 := OT.on og9 hb10
    have hB10 := on_ hB9 hb10
    clear rm9 zm9 rv9 zv9 rs9 zs9 rx9 zx9 rz9 zz9 rg9 zg9
    clear km9 kv9 ks9 kx9 kz9 kg9 or9 oy9 ow9 ox9 op9 oz9 ok9 og9 hB9
    clear hb10
    have rm10 := km10.rule
    have zm10 := km10.lt
    have rv10 := kv10.rule
    have zv10 := kv10.lt
    have rs10 := ks10.rule
    have zs10 := ks10.lt
    have rx10 := kx10.rule
    have zx10 := kx10.lt
    have rz10 := kz10.rule
    have zz10 := kz10.lt
    have rg10 := kg10.rule
    have zg10 := kg10.lt
    go_wp2
    go_region_held3 (fun w' => (∀ i, w'.cell? ⟨w4.heap.size, i, none⟩ = (#[.slice (some ⟨g4, 0, none⟩) vs.length vs.length] : Array Value)[i]?) ∧ (∀ i, w'.cell? ⟨w.heap.size, i, none⟩ = (#[.slice A vs.length c] : Array Value)[i]?))
      (first | exact ⟨kx12.rule, km12.rule⟩ | exact ⟨kx11.rule, km11.rule⟩ | exact ⟨rx10, rm10⟩)
      (first
        | (go_at_call 27; refine (toTally_any A c vs _ (by exact or10) hn').mono ?_; rintro e w11 ⟨g11, cs11, rfl, hg11, hq11, hp11, hb11⟩; have km11 : Blk w11 _ _ _ := Blk.on (w := w10.drew) km10 hb11; have kv11 : Blk w11 _ _ _ := Blk.on (w := w10.drew) kv10 hb11; have ks11 : Blk w11 _ _ _ := Blk.on (w := w10.drew) ks10 hb11; have kx11 : Blk w11 _ _ _ := Blk.on (w := w10.drew) kx10 hb11; have kz11 : Blk w11 _ _ _ := Blk.on (w := w10.drew) kz10 hb11; have kg11 : Blk w11 _ _ _ := Blk.on (w := w10.drew) kg10 hb11; have or11 := Rd3.on (w := w10.drew) or10 hb11; have oy11 := Rd3.on (w := w10.drew) oy10 hb11; have ow11 := OT.on (w := w10.drew) ow10 hb11; have ox11 := Rd3.on (w := w10.drew) ox10 hb11; have op11 := Blk.on (w := w10.drew) op10 hb11; have oz11 := Rd3.on (w := w10.drew) oz10 hb11; have ok11 := Blk.on (w := w10.drew) ok10 hb11; have og11 := OT.on (w := w10.drew) og10 hb11; have hB11 := on_ (hB10).drew hb11; have ot11 := hp11.rd hq11 hq11.lt)
        | (go_at_call 29; refine (eqTally_same _ _ _ _ vs _ (by exact ox11) (by exact ot11) hn').mono ?_; rintro e w12 ⟨rfl, hb12⟩; have km12 : Blk w12 _ _ _ := Blk.on km11 hb12; have kv12 : Blk w12 _ _ _ := Blk.on kv11 hb12; have ks12 : Blk w12 _ _ _ := Blk.on ks11 hb12; have kx12 : Blk w12 _ _ _ := Blk.on kx11 hb12; have kz12 : Blk w12 _ _ _ := Blk.on kz11 hb12; have kg12 : Blk w12 _ _ _ := Blk.on kg11 hb12; have or12 := Rd3.on or11 hb12; have oy12 := Rd3.on oy11 hb12; have ow12 := OT.on ow11 hb12; have ox12 := Rd3.on ox11 hb12; have op12 := Blk.on op11 hb12; have oz12 := Rd3.on oz11 hb12; have ok12 := Blk.on ok11 hb12; have og12 := OT.on og11 hb12; have ot12 := Rd3.on ot11 hb12; have hB12 := on_ hB11 hb12))
    clear rm10 zm10 rv10 zv10 rs10 zs10 rx10 zx10 rz10 zz10 rg10 zg10
    clear km10 kv10 ks10 kx10 kz10 kg10 or10 oy10 ow10 ox10 op10 oz10 ok10 og10 hB10 km11 kv11 ks11 kx11 kz11 kg11 or11 oy11 ow11 ox11 op11 oz11 ok11 og11 ot11 hB11 hb11 hb12
    have rm12 := km12.rule
    have zm12 := km12.lt
    have rv12 := kv12.rule
    have zv12 := kv12.lt
    have rs12 := ks12.rule
    have zs12 := ks12.lt
    have rx12 := kx12.rule
    have zx12 := kx12.lt
    have rz12 := kz12.rule
    have zz12 := kz12.lt
    have rg12 := kg12.rule
    have zg12 := kg12.lt
    clear ot12 ox12
    go_wp2
    go_region_held3 (fun w' => (∀ i, w'.cell? ⟨w6.heap.size, i, none⟩ = (#[.slice (some ⟨g6, 0, none⟩) xs.length xs.length] : Array Value)[i]?) ∧ (∀ i, w'.cell? ⟨w.heap.size + 1, i, none⟩ = (#[.slice B xs.length d] : Array Value)[i]?))
      (first | exact ⟨kz14.rule, kv14.rule⟩ | exact ⟨kz13.rule, kv13.rule⟩ | exact ⟨rz12, rv12⟩)
      (first
        | (go_at_call 27; refine (toTally_any B d xs _ (by exact oy12) hx').mono ?_; rintro e w13 ⟨g13, cs13, rfl, hg13, hq13, hp13, hb13⟩; have km13 : Blk w13 _ _ _ := Blk.on (w := w12.drew) km12 hb13; have kv13 : Blk w13 _ _ _ := Blk.on (w := w12.drew) kv12 hb13; have ks13 : Blk w13 _ _ _ := Blk.on (w := w12.drew) ks12 hb13; have kx13 : Blk w13 _ _ _ := Blk.on (w := w12.drew) kx12 hb13; have kz13 : Blk w13 _ _ _ := Blk.on (w := w12.drew) kz12 hb13; have kg13 : Blk w13 _ _ _ := Blk.on (w := w12.drew) kg12 hb13; have or13 := Rd3.on (w := w12.drew) or12 hb13; have oy13 := Rd3.on (w := w12.drew) oy12 hb13; have ow13 := OT.on (w := w12.drew) ow12 hb13; have op13 := Blk.on (w := w12.drew) op12 hb13; have oz13 := Rd3.on (w := w12.drew) oz12 hb13; have ok13 := Blk.on (w := w12.drew) ok12 hb13; have og13 := OT.on (w := w12.drew) og12 hb13; have hB13 := on_ (hB12).drew hb13; have ot13 := hp13.rd hq13 hq13.lt)
        | (go_at_call 29; refine (eqTally_same _ _ _ _ xs _ (by exact oz13) (by exact ot13) hx').mono ?_; rintro e w14 ⟨rfl, hb14⟩; have km14 : Blk w14 _ _ _ := Blk.on km13 hb14; have kv14 : Blk w14 _ _ _ := Blk.on kv13 hb14; have ks14 : Blk w14 _ _ _ := Blk.on ks13 hb14; have kx14 : Blk w14 _ _ _ := Blk.on kx13 hb14; have kz14 : Blk w14 _ _ _ := Blk.on kz13 hb14; have kg14 : Blk w14 _ _ _ := Blk.on kg13 hb14; have or14 := Rd3.on or13 hb14; have oy14 := Rd3.on oy13 hb14; have ow14 := OT.on ow13 hb14; have op14 := Blk.on op13 hb14; have oz14 := Rd3.on oz13 hb14; have ok14 := Blk.on ok13 hb14; have og14 := OT.on og13 hb14; have ot14 := Rd3.on ot13 hb14; have hB14 := on_ hB13 hb14))
    clear rm12 zm12 rv12 zv12 rs12 zs12 rx12 zx12 rz12 zz12 rg12 zg12
    clear km12 kv12 ks12 kx12 kz12 kg12 or12 oy12 ow12 op12 oz12 ok12 og12 hB12 km13 kv13 ks13 kx13 kz13 kg13 or13 oy13 ow13 op13 oz13 ok13 og13 ot13 hB13 hb13 hb14
    have rm14 := km14.rule
    have zm14 := km14.lt
    have rv14 := kv14.rule
    have zv14 := kv14.lt
    have rs14 := ks14.rule
    have zs14 := ks14.lt
    have rx14 := kx14.rule
    have zx14 := kx14.lt
    have rz14 := kz14.rule
    have zz14 := kz14.lt
    have rg14 := kg14.rule
    have zg14 := kg14.lt
    clear ot14 oz14
    go_wp2_with fail
    refine (markTally_any 1 g4 vs.length vs.length _ cs4 _ op14 HPC.out hn' (by omega) (by omega)).mono ?_
    rintro e w15 ⟨rfl, ds15, hd15, hsd15, hmk15, hgr15⟩
    have km15 := keep_ km14 hgr15 (by simp; omega)
    have kv15 := keep_ kv14 hgr15 (by simp; omega)
    have kz15 := keep_ kz14 hgr15 (by simp; omega)
    have ks15 := keep_ ks14 hgr15 (by simp; omega)
    have kg15 := keep_ kg14 hgr15 (by simp; omega)
    have ow15 := OT.keep ow14 hgr15 (fun g' e' => by have := hl3 g' e'; simp; omega)
    have og15 := OT.keep og14 hgr15 (fun g' e' => by have := hog9 g' e'; simp; omega)
    have ok15 := keep_ ok14 hgr15 (by simp; omega)
    have hB15 := hB14.trans (keepB hgr15 (fun g e => by injection e with e; omega) hB14.size)
    have or15 : Rd3 w15 w15.heap.size A vs := (HR0.out.below hB15).more hB15.size
    have oy15 : Rd3 w15 w15.heap.size B xs := (HY0.out.below hB15).more hB15.size
    have hsz15 := hgr15.size
    clear rm14 zm14 rv14 zv14 rs14 zs14 rx14 zx14 rz14 zz14 rg14 zg14
    clear km14 kv14 ks14 kx14 kz14 kg14 or14 oy14 ow14 op14 ok14 og14 hB14
    have rm15 := km15.rule
    have zm15 := km15.lt
    have rv15 := kv15.rule
    have zv15 := kv15.lt
    have rz15 := kz15.rule
    have zz15 := kz15.lt
    have rs15 := ks15.rule
    have zs15 := ks15.lt
    have rg15 := kg15.rule
    have zg15 := kg15.lt
    clear hd15 hsd15 hmk15 hgr15
    go_wp2_with fail
    refine (markTally_any (1 + 3 * vs.length) g6 xs.length xs.length _ cs6 _ ok15 HPX.out hx' (by omega) (by omega)).mono ?_
    rintro e w16 ⟨rfl, ds16, hd16, hsd16, hmk16, hgr16⟩
    have km16 := keep_ km15 hgr16 (by simp; omega)
    have kv16 := keep_ kv15 hgr16 (by simp; omega)
    have ks16 := keep_ ks15 hgr16 (by simp; omega)
    have kg16 := keep_ kg15 hgr16 (by simp; omega)
    have ow16 := OT.keep ow15 hgr16 (fun g' e' => by have := hl3 g' e'; simp; omega)
    have og16 := OT.keep og15 hgr16 (fun g' e' => by have := hog9 g' e'; simp; omega)
    have hB16 := hB15.trans (keepB hgr16 (fun g e => by injection e with e; omega) hB15.size)
    have or16 : Rd3 w16 w16.heap.size A vs := (HR0.out.below hB16).more hB16.size
    have oy16 : Rd3 w16 w16.heap.size B xs := (HY0.out.below hB16).more hB16.size
    have hsz16 := hgr16.size
    clear rm15 zm15 rv15 zv15 rz15 zz15 rs15 zs15 rg15 zg15
    clear km15 kv15 kz15 ks15 kg15 or15 oy15 ow15 og15 ok15 hB15
    have rm16 := km16.rule
    have zm16 := km16.lt
    have rv16 := kv16.rule
    have zv16 := kv16.lt
    have rs16 := ks16.rule
    have zs16 := ks16.lt
    have rg16 := kg16.rule
    have zg16 := kg16.lt
    clear hd16 hsd16 hmk16 hgr16
    go_wp2_with fail
    refine (eqTally_same _ _ _ _ us _ (by exact og16.rd) (by exact ow16.rd) hul).mono ?_
    rintro e w17 ⟨rfl, hb17⟩
    have km17 : Blk w17 _ _ _ := Blk.on km16 hb17
    have kv17 : Blk w17 _ _ _ := Blk.on kv16 hb17
    have ks17 : Blk w17 _ _ _ := Blk.on ks16 hb17
    have kg17 : Blk w17 _ _ _ := Blk.on kg16 hb17
    have or17 := Rd3.on or16 hb17
    have oy17 := Rd3.on oy16 hb17
    have ow17 := OT.on ow16 hb17
    have og17 := OT.on og16 hb17
    have hB17 := on_ hB16 hb17
    clear rm16 zm16 rv16 zv16 rs16 zs16 rg16 zg16
    clear km16 kv16 ks16 kg16 or16 oy16 ow16 og16 hB16
    clear hb17
    have rm17 := km17.rule
    have zm17 := km17.lt
    have rv17 := kv17.rule
    have zv17 := kv17.lt
    have rs17 := ks17.rule
    have zs17 := ks17.lt
    have rg17 := kg17.rule
    have zg17 := kg17.lt
    go_wp2_with fail
    refine (markTally_grow 1 B5 d5 _ _ us _ og17 hul (by omega) (by omega)).mono ?_
    rintro e w18 ⟨rfl, og18, row18, hrow18, hgr18⟩
    have km18 := keep_ km17 hgr18 (fun e => by have := hog9 _ (hrow18 _ e); omega)
    have kv18 := keep_ kv17 hgr18 (fun e => by have := hog9 _ (hrow18 _ e); omega)
    have ks18 := keep_ ks17 hgr18 (fun e => by have := hog9 _ (hrow18 _ e); omega)
    have kg18 := keep_ kg17 hgr18 (fun e => hne5 _ (hrow18 _ e) rfl)
    have ow18 := OT.keep ow17 hgr18 (fun g' e' e => by have := hl3 g' e'; have := hog9 _ (hrow18 _ e); omega)
    have hB18 := hB17.trans (keepB hgr18 (fun g e => by have := hog9 _ (hrow18 _ e); omega) hB17.size)
    have or18 : Rd3 w18 w18.heap.size A vs := (HR0.out.below hB18).more hB18.size
    have oy18 : Rd3 w18 w18.heap.size B xs := (HY0.out.below hB18).more hB18.size
    have hsz18 := hgr18.size
    clear rm17 zm17 rv17 zv17 rs17 zs17 rg17 zg17
    clear km17 kv17 ks17 kg17 or17 oy17 ow17 og17 hB17
    have rm18 := km18.rule
    have zm18 := km18.lt
    have rv18 := kv18.rule
    have zv18 := kv18.lt
    have rs18 := ks18.rule
    have zs18 := ks18.lt
    have rg18 := kg18.rule
    have zg18 := kg18.lt
    clear hgr18 hrow18
    go_wp2_with fail
    refine (heldTally_own 1 B5 d5 _ _ us.length _ og18 hul (by omega) (by omega)).mono ?_
    rintro e w19 ⟨rfl, hb19⟩
    have km19 : Blk w19 _ _ _ := Blk.on km18 hb19
    have kv19 : Blk w19 _ _ _ := Blk.on kv18 hb19
    have ks19 : Blk w19 _ _ _ := Blk.on ks18 hb19
    have kg19 : Blk w19 _ _ _ := Blk.on kg18 hb19
    have or19 := Rd3.on or18 hb19
    have oy19 := Rd3.on oy18 hb19
    have ow19 := OT.on ow18 hb19
    have og19 := MT.on og18 hb19
    have hB19 := on_ hB18 hb19
    clear rm18 zm18 rv18 zv18 rs18 zs18 rg18 zg18
    clear km18 kv18 ks18 kg18 or18 oy18 ow18 og18 hB18
    clear hb19
    have rm19 := km19.rule
    have zm19 := km19.lt
    have rv19 := kv19.rule
    have zv19 := kv19.lt
    have rs19 := ks19.rule
    have zs19 := ks19.lt
    have rg19 := kg19.rule
    have zg19 := kg19.lt
    have hne : ((1 + 3 * (us.length : Int)) != (1 + 3 * (us.length : Int))) = false := by simp
    go_wp2_with fail
    go_cut [15, 16] from 94 to 101 (fun s6 s7 wx => Made w19 us q s6 s7 wx)
    case first =>
      rename_i J_ K_ hJ_ hK_
      go_region_held3 (fun w' => (∀ i, w'.cell? ⟨w.heap.size, i, none⟩ = (#[.slice A vs.length c] : Array Value)[i]?) ∧ (∀ i, w'.cell? ⟨w.heap.size + 1, i, none⟩ = (#[.slice B xs.length d] : Array Value)[i]?))
        (first | with_reducible exact ⟨(Blk.on km19 hBd).rule, (Blk.on kv19 hBd).rule⟩ | with_reducible exact ⟨(Blk.alloc (Blk.on km19 hBd) _).rule, (Blk.alloc (Blk.on kv19 hBd) _).rule⟩ | with_reducible exact ⟨(Blk.on km19 hBb).rule, (Blk.on kv19 hBb).rule⟩ | with_reducible exact ⟨(Blk.alloc (Blk.on km19 hBb) _).rule, (Blk.alloc (Blk.on kv19 hBb) _).rule⟩ | with_reducible exact ⟨(Blk.on km19 hBa).rule, (Blk.on kv19 hBa).rule⟩ | with_reducible exact ⟨(Blk.alloc (Blk.on km19 hBa) _).rule, (Blk.alloc (Blk.on kv19 hBa) _).rule⟩ | with_reducible exact ⟨(Blk.dr km19).rule, (Blk.dr kv19).rule⟩ | with_reducible exact ⟨(Blk.dr (Blk.alloc km19 _)).rule, (Blk.dr (Blk.alloc kv19 _)).rule⟩ | with_reducible exact ⟨rm19, rv19⟩ | with_reducible exact ⟨(Blk.alloc km19 _).rule, (Blk.alloc kv19 _).rule⟩ | with_reducible exact ⟨(Blk.six (Blk.on km19 hBd) (by omega) _).rule, (Blk.six (Blk.on kv19 hBd) (by omega) _).rule⟩)
        (first
          | (go_at_call 27; refine (toTally_any A c vs _ (by first | with_reducible exact Rd3.dr or19 | with_reducible exact Rd3.dr (Rd3.up or19 _)) hn').mono ?_; rintro e wa ⟨ga, csa, rfl, hga, hqa, hpa, hba⟩; have hBa : Below w19.heap.size w19 wa := (by first | with_reducible exact on_ (Below.refl _ _).drew hba | with_reducible exact on_ (up_ (Below.refl _ _) _).drew hba); have hsza := hBa.size; have hsa : Rd3 wa wa.heap.size _ vs := hpa.rd hqa hqa.lt; have hya : Rd3 wa wa.heap.size B xs := (by first | with_reducible exact Rd3.on (Rd3.dr oy19) hba | with_reducible exact Rd3.on (Rd3.dr (Rd3.up oy19 _)) hba))
          | (go_at_call 27; refine (toTally_any B d xs _ (by first | with_reducible exact hya | with_reducible exact Rd3.up hya _) hx').mono ?_; rintro e wb ⟨gb, csb, rfl, hgb, hqb, hpb, hbb⟩; have hBb : Below w19.heap.size w19 wb := (by first | with_reducible exact on_ hBa hbb | with_reducible exact on_ (up_ hBa _) hbb); have hszb := hBb.size; have hsb : Rd3 wb wb.heap.size _ vs := (by first | with_reducible exact Rd3.on hsa hbb | with_reducible exact Rd3.on (Rd3.up hsa _) hbb); have htb : Rd3 wb wb.heap.size _ xs := hpb.rd hqb hqb.lt)
          | (go_at_call 51; refine (HIM.out _ _ _ (by first | with_reducible exact hsb | with_reducible exact Rd3.up hsb _) (by first | with_reducible exact htb | with_reducible exact Rd3.up htb _)).mono ?_; rintro e wd ⟨Bd, dd, rfl, hod, hbd⟩; have hBd : Below w19.heap.size w19 wd := (by first | with_reducible exact on_ hBb hbd | with_reducible exact on_ (up_ hBb _) hbd); have hszd := hBd.size; first | (have hz0 := (by with_reducible exact (Blk.on (Blk.new wb 31 #[.slice none 0 0]) hbd)); have hz1 : wb.heap.size < wd.heap.size := hz0.lt; have hzb : wb.heap.size + 1 ≤ (wb.alloc (.cells #[.slice none 0 0] 31)).heap.size := (by have := (Blk.new wb 31 #[.slice none 0 0]).lt; simp <;> omega); have rz0 := hz0.rule; have fz0 := fun i => hz0.frozen i) | (have hz0 := (by with_reducible exact (Blk.on (Blk.on (Blk.new wa 31 #[.slice none 0 0]) hbb) hbd)); have hz1 : wa.heap.size < wd.heap.size := hz0.lt; have hzb : wa.heap.size + 1 ≤ wb.heap.size := (by have := (Blk.on (Blk.new wa 31 #[.slice none 0 0]) hbb).lt; simp <;> omega); have rz0 := hz0.rule; have fz0 := fun i => hz0.frozen i) | (have hz0 := (by with_reducible exact (Blk.on (Blk.on (Blk.on (Blk.dr (Blk.new w19 31 #[.slice none 0 0])) hba) hbb) hbd)); have hz1 : w19.heap.size < wd.heap.size := hz0.lt; have hzb : w19.heap.size + 1 ≤ wb.heap.size := (by have := (Blk.on (Blk.on (Blk.dr (Blk.new w19 31 #[.slice none 0 0])) hba) hbb).lt; simp <;> omega); have rz0 := hz0.rule; have fz0 := fun i => hz0.frozen i) | skip))
      all_goals (refine hK_ _ _ (Met.intro (hJ_ _ _ ?_)); (repeat apply Exists.intro); refine ⟨?_, rfl⟩)
      all_goals first
        | (with_reducible refine made_early hz0 ?_ hBd hod hzb ?_) <;> omega
        | (with_reducible refine made_late hBd hod ?_) <;> first | exact hszb | exact Nat.le_refl _ | (simp <;> omega)
    case rest =>
    revert wc
    intro w20 hcut
    obtain ⟨pu, B13, d13, rfl, rfl, ku20, ou20, hne13, hge13, hb20⟩ := hcut
    have km20 : Blk w20 _ _ _ := Blk.on km19 hb20
    have kv20 : Blk w20 _ _ _ := Blk.on kv19 hb20
    have ks20 : Blk w20 _ _ _ := Blk.on ks19 hb20
    have kg20 : Blk w20 _ _ _ := Blk.on kg19 hb20
    have or20 := Rd3.on or19 hb20
    have oy20 := Rd3.on oy19 hb20
    have ow20 := OT.on ow19 hb20
    have og20 := MT.on og19 hb20
    have hB20 := on_ hB19 hb20
    have hsz20 := hb20.size
    clear rm19 zm19 rv19 zv19 rs19 zs19 rg19 zg19
    clear km19 kv19 ks19 kg19 or19 oy19 ow19 og19 hB19
    clear hb20
    have rm20 := km20.rule
    have zm20 := km20.lt
    have rv20 := kv20.rule
    have zv20 := kv20.lt
    have rs20 := ks20.rule
    have zs20 := ks20.lt
    have rg20 := kg20.rule
    have zg20 := kg20.lt
    have ru20 := ku20.rule
    have zu20 := ku20.lt
    go_wp2_with fail
    refine (eqTally_same _ _ _ _ us _ (by exact ou20.rd) (by exact ow20.rd) hul).mono ?_
    rintro e w21 ⟨rfl, hb21⟩
    have km21 : Blk w21 _ _ _ := Blk.on km20 hb21
    have kv21 : Blk w21 _ _ _ := Blk.on kv20 hb21
    have ks21 : Blk w21 _ _ _ := Blk.on ks20 hb21
    have kg21 : Blk w21 _ _ _ := Blk.on kg20 hb21
    have ku21 : Blk w21 _ _ _ := Blk.on ku20 hb21
    have or21 := Rd3.on or20 hb21
    have oy21 := Rd3.on oy20 hb21
    have ow21 := OT.on ow20 hb21
    have og21 := MT.on og20 hb21
    have ou21 := OT.on ou20 hb21
    have hB21 := on_ hB20 hb21
    clear rm20 zm20 rv20 zv20 rs20 zs20 rg20 zg20 ru20 zu20
    clear km20 kv20 ks20 kg20 ku20 or20 oy20 ow20 og20 ou20 hB20
    clear hb21
    have rm21 := km21.rule
    have zm21 := km21.lt
    have rv21 := kv21.rule
    have zv21 := kv21.lt
    have rs21 := ks21.rule
    have zs21 := ks21.lt
    have rg21 := kg21.rule
    have zg21 := kg21.lt
    have ru21 := ku21.rule
    have zu21 := ku21.lt
    go_wp2_with fail
    refine (heldTally_own 1 B5 d5 _ _ us.length _ og21 hul (by omega) (by omega)).mono ?_
    rintro e w22 ⟨rfl, hb22⟩
    have km22 : Blk w22 _ _ _ := Blk.on km21 hb22
    have kv22 : Blk w22 _ _ _ := Blk.on kv21 hb22
    have ks22 : Blk w22 _ _ _ := Blk.on ks21 hb22
    have kg22 : Blk w22 _ _ _ := Blk.on kg21 hb22
    have ku22 : Blk w22 _ _ _ := Blk.on ku21 hb22
    have or22 := Rd3.on or21 hb22
    have oy22 := Rd3.on oy21 hb22
    have ow22 := OT.on ow21 hb22
    have og22 := MT.on og21 hb22
    have ou22 := OT.on ou21 hb22
    have hB22 := on_ hB21 hb22
    clear rm21 zm21 rv21 zv21 rs21 zs21 rg21 zg21 ru21 zu21
    clear km21 kv21 ks21 kg21 ku21 or21 oy21 ow21 og21 ou21 hB21
    clear hb22
    have rm22 := km22.rule
    have zm22 := km22.lt
    have rv22 := kv22.rule
    have zv22 := kv22.lt
    have rs22 := ks22.rule
    have zs22 := ks22.lt
    have rg22 := kg22.rule
    have zg22 := kg22.lt
    have ru22 := ku22.rule
    have zu22 := ku22.lt
    go_wp2
    go_ret
    exact ⟨rfl, hB22⟩
theorem walk (A B : Option Addr) (c d : Nat) (vs xs : List B3) (w : World) (hm : vs.length ≤ maxLen) (hmx : xs.length ≤ maxLen) (hr : Rd3 w w.heap.size A vs) (hy : Rd3 w w.heap.size B xs) :
    Calls Try.prog 15 #[.agg #[.slice A vs.length c], .agg #[.slice B xs.length d]] w fun e w' => e = .returned (.bool true) ∧ Below w.heap.size w w' :=
  walk0 A B c d vs xs (joinU vs xs) (joinQ vs xs) w hm hmx (Nat.le_trans (joinU_small vs xs) (by omega)) hr hy
    (fun hn hx g g' W h h' => specJoined_any _ _ _ _ vs xs W h h' hn hx) (fun hn hx g g' W h h' => implJoined_any _ _ _ _ vs xs W h h' hn hx)


theorem own : ownKnob Try.prog.godebug = none := by kernel_rfl
theorem laidOut : laidOutB Try.prog = true := by kernel_rfl

set_option maxRecDepth 100000 in
theorem lifted (os : Os) (started : os.Started) (H : Type) (enc : TypeId × Value → H) :
    ReturnsInHanded {} Try.checked os 15 .any (Rows.fnExactJoinedSpec.pre6 enc Try.prog Try.f15 Rows.fnExactJoinedRow.domain false) (Rows.fnExactJoinedSpec.post enc Try.prog Try.f15 false true false false) := by
  refine returnsInHanded_of_change (C := Try.checked) own started (by kernel_rfl) Try.func15
    (ChangeSpec.witness6 (enc := enc) (C := Try.checked) false ⟨#[], #[.agg #[.slice none 0 0], .agg #[.slice none 0 0]], []⟩ 8 (by kernel_rfl) (by kernel_rfl) (by kernel_rfl) (by kernel_rfl)) ?_
  intro W base args ds gs before hval0 hW hcnd _
  have hval : ∀ (j : Nat) t v, Try.f15.params[j]? = some t → args[j]? = some v → Value.okWide Try.prog W .any base t v := hval0
  have hW' := hW
  obtain ⟨p, q, hA0, hV, rfl, hfz, hnd⟩ := hW
  have hA : DataW.TrodAll enc Try.prog W 0 (fun _ => true) true Try.f15.params.toList args.toList ds p := hA0
  rw [Try.params15] at hA hval
  obtain ⟨v0, v1, d0, d1, p0, p1, rfl, rfl, rfl, h0, h1⟩ := trodAll_two hA
  obtain ⟨cs0, rfl, hsz0⟩ := okWide_struct Try.underlying26 (hval 0 26 v0 rfl rfl)
  obtain ⟨fuel0, hf0⟩ := h0
  obtain ⟨At, ct, st, hcs0, hmt, hrt⟩ := open_tally hf0
  obtain rfl : cs0 = #[.slice At st.length ct] := by
    obtain ⟨l⟩ := cs0
    simpa [Value.cells] using hcs0
  obtain ⟨cs1, rfl, hsz1⟩ := okWide_struct Try.underlying26 (hval 1 26 v1 rfl rfl)
  obtain ⟨fuel1, hf1⟩ := h1
  obtain ⟨An, cn, sn, hcs1, hmn, hrn⟩ := open_tally hf1
  obtain rfl : cs1 = #[.slice An sn.length cn] := by
    obtain ⟨l⟩ := cs1
    simpa [Value.cells] using hcs1
  refine (walk At An ct cn st sn W hmt hmn hrt hrn).mono fun e W' ⟨he, hb⟩ => ⟨_, he, law_post laidOut hW' hb rfl (by kernel_rfl) Try.underlying4 (by kernel_rfl) rfl⟩

theorem over : Rows.fnExactJoinedRow.holds Try.pinned (OpenSpec.ofChange Rows.fnExactJoinedSpec) :=
  OpenClaim.holds_of_wide 15 Try.f15 rfl rfl rfl rfl rfl rfl rfl ⟨rfl, rfl, rfl, rfl, rfl⟩ rfl rfl rfl rfl rfl (by kernel_rfl) Try.func15 (by kernel_rfl)
    (of_decide_eq_true (by kernel_rfl)) (by unfold Func.isWrapper; first | (rw [if_pos (by decide +kernel)]; kernel_rfl) | (rw [if_neg (by decide +kernel)]; exact ⟨rfl, rfl⟩))
    (fun os started H enc _ => lifted os started H enc)

theorem proved : Rows.FnExactJoinedSaid :=
  over
end Go.Proofs.Ytebcelebhlmfoaa.fnExactJoined
