/-
  Undo of the model and of the program: contracts. No statement is proved here.
-/
import Derived.Test.YtbogagddjkghhaaDoorStDo
import Derived.Deep.Cut
set_option linter.unusedVariables false
set_option maxRecDepth 100000
namespace Go.Proofs.YtbogagddjkghhaaDoor.V
open Go.RowKit Go.Proofs.YtbogagddjkghhaaDoor.B
theorem far7 {w : World} {t base g : Nat} {xs : List Int} (h : OI w t base (some ⟨g, 0, none⟩) xs) {p : Addr} (hne : g ≠ p.block) (u : Value) : OI (w.setCell p u) t base (some ⟨g, 0, none⟩) xs := by
  rcases h with ⟨h, _⟩ | ⟨g2, cur, e2, hb2, hk2, hq2⟩
  · cases h
  · injection e2 with e2
    injection e2 with e2
    subst e2
    exact .inr ⟨_, cur, rfl, hb2, hk2.far hne _, hq2⟩
def unQ (vs : List Int) (m k y n was : Int) : Bool := stB vs m && cmdB k y n && decide (m ≠ 0) && inB was
def unU (vs : List Int) (m k y n was : Int) : List Int := if unQ vs m k y n was then vs.set y.toNat was else []
def unM (vs : List Int) (m k y n was : Int) : Int := if unQ vs m k y n was then m - 1 else 0
theorem unU_small (vs : List Int) (m k y n was : Int) : (unU vs m k y n was).length ≤ 1048576 := by
  unfold unU
  rcases hq : unQ vs m k y n was with _ | _
  · simp
  · rw [if_pos rfl, List.length_set]
    unfold unQ at hq
    simp only [Bool.and_eq_true] at hq
    have := (stB_yes hq.1.1.1).1
    omega
theorem un_no {vs : List Int} {m k y n was : Int} (h : unQ vs m k y n was = false) : unU vs m k y n was = [] ∧ unM vs m k y n was = 0 ∧ unQ vs m k y n was = false := by
  simp [unU, unM, h]
theorem un_yes {vs : List Int} {m k n was : Int} {y : Nat} (h : unQ vs m k y n was = true) : unU vs m k y n was = vs.set y was ∧ unM vs m k y n was = m - 1 ∧ unQ vs m k y n was = true := by
  unfold unU unM
  rw [h, Int.toNat_natCast]
  exact ⟨rfl, rfl, rfl⟩
set_option maxHeartbeats 3200000 in
theorem implUndo_any (A : Option Addr) (c : Nat) (vs : List Int) (m k y n was : Int) (w : World) (hr : RdI w w.heap.size A vs) (hn : vs.length ≤ 1048576) :
    Calls Tryd.prog 22 #[.agg #[.slice A vs.length c, .int .i64 m], .agg #[.int .i64 k, .int .i64 y, .int .i64 n], .int .i64 was] w (SG (unU vs m k y n was) (unM vs m k y n was) (.bool (unQ vs m k y n was)) w) := by
  have ka := ((Blk.new w 46 #[.slice A vs.length c, .int .i64 m]).alloc (.cells #[.int .i64 k, .int .i64 y, .int .i64 n] 48)).alloc (.cells #[.slice none 0 0, .int .i64 0] 46)
  have kc := (Blk.new (w.alloc (.cells #[.slice A vs.length c, .int .i64 m] 46)) 48 #[.int .i64 k, .int .i64 y, .int .i64 n]).alloc (.cells #[.slice none 0 0, .int .i64 0] 46)
  have kr := Blk.new ((w.alloc (.cells #[.slice A vs.length c, .int .i64 m] 46)).alloc (.cells #[.int .i64 k, .int .i64 y, .int .i64 n] 48)) 46 #[.slice none 0 0, .int .i64 0]
  simp only [World.size_alloc] at kc kr
  have hB := up_ (up_ (up_ (Below.refl w.heap.size w) (.cells #[.slice A vs.length c, .int .i64 m] 46)) (.cells #[.int .i64 k, .int .i64 y, .int .i64 n] 48)) (.cells #[.slice none 0 0, .int .i64 0] 46)
  have hr1 := ((hr.up (.cells #[.slice A vs.length c, .int .i64 m] 46)).up (.cells #[.int .i64 k, .int .i64 y, .int .i64 n] 48)).up (.cells #[.slice none 0 0, .int .i64 0] 46)
  have HR := Lib.hid hr1
  clear hr1 hr
  rcases hq : stB vs m with _ | _
  · obtain ⟨e1, e2, e3⟩ := un_no (vs := vs) (m := m) (k := k) (y := y) (n := n) (was := was) (by simp [unQ, hq])
    rw [e1, e2, e3]
    have HQ := Lib.hid hq; clear hq e1 e2 e3
    go_enter Tryd.func22, Tryd.ntmps22
    go_wp2_with fail
    with_reducible refine (implStoreOk_is false A c vs m HQ.out _ HR.out hn).mono ?_
    rintro e w1 ⟨rfl, hb⟩
    have ka1 := ka.on hb
    have kc1 := kc.on hb
    have kr1 := kr.on hb
    have hB1 := on_ hB hb
    have hr1 := Lib.hid (HR.out.on hb)
    clear hb ka kc kr hB HR
    have rr1_0 := kr1.rule
    have fr1_0 := fun i => kr1.frozen i
    have kr1_1 : Blk (w1.setCell ⟨w.heap.size + 1 + 1, 0, none⟩ (.slice none 0 0)) (w.heap.size + 1 + 1) 46 #[.slice none 0 0, .int .i64 0] := kr1.set_ 0 _
    have rr1_1 := kr1_1.rule
    have fr1_1 := fun i => kr1_1.frozen i
    have kr1_2 : Blk ((w1.setCell ⟨w.heap.size + 1 + 1, 0, none⟩ (.slice none 0 0)).setCell ⟨w.heap.size + 1 + 1, 1, none⟩ (.int .i64 0)) (w.heap.size + 1 + 1) 46 #[.slice none 0 0, .int .i64 0] := kr1_1.set_ 1 _
    have rr1_2 := kr1_2.rule
    have fr1_2 := fun i => kr1_2.frozen i
    go_wp2
    refine bodyPost_ret (v := .tuple #[.agg #[.slice none 0 0, .int .i64 0], .bool false]) (by simp [results, Tryd.results22, go_sem, rr1_2]) rfl (sg_none ?_)
    iterate 2 refine Below.setCell ?_ (by simp <;> omega) _
    exact hB1
  rcases hp : cmdB k y n with _ | _
  · obtain ⟨e1, e2, e3⟩ := un_no (vs := vs) (m := m) (k := k) (y := y) (n := n) (was := was) (by simp [unQ, hp])
    rw [e1, e2, e3]
    have HQ := Lib.hid hq; have HP := Lib.hid hp; clear hq hp e1 e2 e3
    go_enter Tryd.func22, Tryd.ntmps22
    go_wp2_with fail
    with_reducible refine (implStoreOk_is true A c vs m HQ.out _ HR.out hn).mono ?_
    rintro e w1 ⟨rfl, hb⟩
    have ka1 := ka.on hb
    have kc1 := kc.on hb
    have kr1 := kr.on hb
    have hB1 := on_ hB hb
    have hr1 := Lib.hid (HR.out.on hb)
    clear hb ka kc kr hB HR
    have ra1 := ka1.rule
    have rc1 := kc1.rule
    go_wp2_with fail
    with_reducible refine (implCmdOk_is false k y n HP.out _).mono ?_
    rintro e w2 ⟨rfl, hb⟩
    have ka2 := ka1.on hb
    have kc2 := kc1.on hb
    have kr2 := kr1.on hb
    have hB2 := on_ hB1 hb
    have hr2 := Lib.hid (hr1.out.on hb)
    clear ra1 rc1 hb ka1 kc1 kr1 hB1 hr1
    have rr2_0 := kr2.rule
    have fr2_0 := fun i => kr2.frozen i
    have kr2_1 : Blk (w2.setCell ⟨w.heap.size + 1 + 1, 0, none⟩ (.slice none 0 0)) (w.heap.size + 1 + 1) 46 #[.slice none 0 0, .int .i64 0] := kr2.set_ 0 _
    have rr2_1 := kr2_1.rule
    have fr2_1 := fun i => kr2_1.frozen i
    have kr2_2 : Blk ((w2.setCell ⟨w.heap.size + 1 + 1, 0, none⟩ (.slice none 0 0)).setCell ⟨w.heap.size + 1 + 1, 1, none⟩ (.int .i64 0)) (w.heap.size + 1 + 1) 46 #[.slice none 0 0, .int .i64 0] := kr2_1.set_ 1 _
    have rr2_2 := kr2_2.rule
    have fr2_2 := fun i => kr2_2.frozen i
    go_wp2
    refine bodyPost_ret (v := .tuple #[.agg #[.slice none 0 0, .int .i64 0], .bool false]) (by simp [results, Tryd.results22, go_sem, rr2_2]) rfl (sg_none ?_)
    iterate 2 refine Below.setCell ?_ (by simp <;> omega) _
    exact hB2
  obtain ⟨hm0, hm1⟩ : 0 ≤ m ∧ m ≤ 1000 := ⟨(stB_yes hq).2.1, (stB_yes hq).2.2.1⟩
  by_cases hz : m = 0
  · subst hz
    obtain ⟨e1, e2, e3⟩ := un_no (vs := vs) (m := 0) (k := k) (y := y) (n := n) (was := was) (by simp [unQ])
    rw [e1, e2, e3]
    have HQ := Lib.hid hq; have HP := Lib.hid hp; clear hq hp e1 e2 e3
    go_enter Tryd.func22, Tryd.ntmps22
    go_wp2_with fail
    with_reducible refine (implStoreOk_is true A c vs 0 HQ.out _ HR.out hn).mono ?_
    rintro e w1 ⟨rfl, hb⟩
    have ka1 := ka.on hb
    have kc1 := kc.on hb
    have kr1 := kr.on hb
    have hB1 := on_ hB hb
    have hr1 := Lib.hid (HR.out.on hb)
    clear hb ka kc kr hB HR
    have ra1 := ka1.rule
    have rc1 := kc1.rule
    go_wp2_with fail
    with_reducible refine (implCmdOk_is true k y n HP.out _).mono ?_
    rintro e w2 ⟨rfl, hb⟩
    have ka2 := ka1.on hb
    have kc2 := kc1.on hb
    have kr2 := kr1.on hb
    have hB2 := on_ hB1 hb
    have hr2 := Lib.hid (hr1.out.on hb)
    clear ra1 rc1 hb ka1 kc1 kr1 hB1 hr1
    have ra2 := ka2.rule
    have rr2_0 := kr2.rule
    have fr2_0 := fun i => kr2.frozen i
    have kr2_1 : Blk (w2.setCell ⟨w.heap.size + 1 + 1, 0, none⟩ (.slice none 0 0)) (w.heap.size + 1 + 1) 46 #[.slice none 0 0, .int .i64 0] := kr2.set_ 0 _
    have rr2_1 := kr2_1.rule
    have fr2_1 := fun i => kr2_1.frozen i
    have kr2_2 : Blk ((w2.setCell ⟨w.heap.size + 1 + 1, 0, none⟩ (.slice none 0 0)).setCell ⟨w.heap.size + 1 + 1, 1, none⟩ (.int .i64 0)) (w.heap.size + 1 + 1) 46 #[.slice none 0 0, .int .i64 0] := kr2_1.set_ 1 _
    have rr2_2 := kr2_2.rule
    have fr2_2 := fun i => kr2_2.frozen i
    go_wp2
    refine bodyPost_ret (v := .tuple #[.agg #[.slice none 0 0, .int .i64 0], .bool false]) (by simp [results, Tryd.results22, go_sem, rr2_2]) rfl (sg_none ?_)
    iterate 2 refine Below.setCell ?_ (by simp <;> omega) _
    exact hB2
  have hz0 : 1 ≤ m := by omega
  have hz' : (m == 0) = false := by simpa using hz
  clear hz
  rcases hw : inB was with _ | _
  · have HW := Lib.hid hw
    obtain ⟨e1, e2, e3⟩ := un_no (vs := vs) (m := m) (k := k) (y := y) (n := n) (was := was) (by simp [unQ, hw])
    rw [e1, e2, e3]
    have HQ := Lib.hid hq; have HP := Lib.hid hp; clear hq hp e1 e2 e3
    clear hw
    go_enter Tryd.func22, Tryd.ntmps22
    go_wp2_with fail
    with_reducible refine (implStoreOk_is true A c vs m HQ.out _ HR.out hn).mono ?_
    rintro e w1 ⟨rfl, hb⟩
    have ka1 := ka.on hb
    have kc1 := kc.on hb
    have kr1 := kr.on hb
    have hB1 := on_ hB hb
    have hr1 := Lib.hid (HR.out.on hb)
    clear hb ka kc kr hB HR
    have ra1 := ka1.rule
    have rc1 := kc1.rule
    go_wp2_with fail
    with_reducible refine (implCmdOk_is true k y n HP.out _).mono ?_
    rintro e w2 ⟨rfl, hb⟩
    have ka2 := ka1.on hb
    have kc2 := kc1.on hb
    have kr2 := kr1.on hb
    have hB2 := on_ hB1 hb
    have hr2 := Lib.hid (hr1.out.on hb)
    clear ra1 rc1 hb ka1 kc1 kr1 hB1 hr1
    have ra2 := ka2.rule
    go_wp2_with fail
    with_reducible refine (stored_is false was HW.out _).mono ?_
    rintro e w9 ⟨rfl, h9⟩; obtain rfl := h9.symm
    have rr2_0 := kr2.rule
    have fr2_0 := fun i => kr2.frozen i
    have kr2_1 : Blk (w2.setCell ⟨w.heap.size + 1 + 1, 0, none⟩ (.slice none 0 0)) (w.heap.size + 1 + 1) 46 #[.slice none 0 0, .int .i64 0] := kr2.set_ 0 _
    have rr2_1 := kr2_1.rule
    have fr2_1 := fun i => kr2_1.frozen i
    have kr2_2 : Blk ((w2.setCell ⟨w.heap.size + 1 + 1, 0, none⟩ (.slice none 0 0)).setCell ⟨w.heap.size + 1 + 1, 1, none⟩ (.int .i64 0)) (w.heap.size + 1 + 1) 46 #[.slice none 0 0, .int .i64 0] := kr2_1.set_ 1 _
    have rr2_2 := kr2_2.rule
    have fr2_2 := fun i => kr2_2.frozen i
    go_wp2
    refine bodyPost_ret (v := .tuple #[.agg #[.slice none 0 0, .int .i64 0], .bool false]) (by simp [results, Tryd.results22, go_sem, rr2_2]) rfl (sg_none ?_)
    iterate 2 refine Below.setCell ?_ (by simp <;> omega) _
    exact hB2
  obtain ⟨l4, _, _, hall⟩ := stB_yes hq
  obtain ⟨hk0, hk1, hy0, hy1, hn0, hn1, _⟩ := cmdB_yes hp
  obtain ⟨y, rfl⟩ : ∃ z : Nat, y = z := ⟨y.toNat, by omega⟩
  obtain ⟨hw0, hw1⟩ := inB_yes hw
  have hzm : m ≠ 0 := by omega
  obtain ⟨e1, e2, e3⟩ := un_yes (vs := vs) (m := m) (k := k) (y := y) (n := n) (was := was) (by simp [unQ, hp, hq, hw, hzm])
  rw [e1, e2, e3]
  have HQ := Lib.hid hq; have HP := Lib.hid hp; have HW := Lib.hid hw; have HL := Lib.hid l4; clear hq hp e1 e2 e3 hw l4 hall hzm
  have g0 : (0 : Int) ≤ (y : Int) := by omega
  have g1 : (y : Int) < 4 := by omega
  go_enter Tryd.func22, Tryd.ntmps22
  go_wp2_with fail
  with_reducible refine (implStoreOk_is true A c vs m HQ.out _ HR.out hn).mono ?_
  rintro e w1 ⟨rfl, hb⟩
  have ka1 := ka.on hb
  have kc1 := kc.on hb
  have kr1 := kr.on hb
  have hB1 := on_ hB hb
  have hr1 := Lib.hid (HR.out.on hb)
  clear hb ka kc kr hB HR
  have ra1 := ka1.rule
  have rc1 := kc1.rule
  go_wp2_with fail
  with_reducible refine (implCmdOk_is true k y n HP.out _).mono ?_
  rintro e w2 ⟨rfl, hb⟩
  have ka2 := ka1.on hb
  have kc2 := kc1.on hb
  have kr2 := kr1.on hb
  have hB2 := on_ hB1 hb
  have hr2 := Lib.hid (hr1.out.on hb)
  clear ra1 rc1 hb ka1 kc1 kr1 hB1 hr1
  have ra2 := ka2.rule
  go_wp2_with fail
  with_reducible refine (stored_is true was HW.out _).mono ?_
  rintro e w9 ⟨rfl, h9⟩; obtain rfl := h9.symm
  go_wp2_with fail
  with_reducible refine (copied_any A c vs m w2 hr2.out hn).mono ?_
  rintro e w3 ⟨B, d, rfl, hd, ho, hb⟩
  have kc3 := kc2.on hb
  have kr3 := kr2.on hb
  have hB3 := on_ hB2 hb
  have hrl := kr2.lt
  have hz3 := hb.size
  obtain ⟨g, cs, rfl, hgb, hk, hpi⟩ := ho.row7 (by rw [HL.out]; omega)
  have hgl := hk.lt
  have hcg := hpi.2 y (by rw [HL.out]; omega)
  rw [HL.out] at hd
  have HDL : Hid (([] : List Int).length = 0) := rfl
  clear hb ra2 ka2 kc2 kr2 hB2 hr2 hpi
  have kx4 : Blk (w3.alloc (.cells #[.slice (some ⟨g, 0, none⟩) 4 d, .int .i64 m] 46)) w3.heap.size 46 #[.slice (some ⟨g, 0, none⟩) 4 d, .int .i64 m] := Blk.new _ _ _
  have kc4 := kc3.alloc (.cells #[.slice (some ⟨g, 0, none⟩) 4 d, .int .i64 m] 46)
  have kr4 := kr3.alloc (.cells #[.slice (some ⟨g, 0, none⟩) 4 d, .int .i64 m] 46)
  have hk4 := hk.alloc (.cells #[.slice (some ⟨g, 0, none⟩) 4 d, .int .i64 m] 46)
  have hB4 := up_ hB3 (.cells #[.slice (some ⟨g, 0, none⟩) 4 d, .int .i64 m] 46)
  have ho4 := Lib.hid (ho.up (.cells #[.slice (some ⟨g, 0, none⟩) 4 d, .int .i64 m] 46))
  have rc4 := kc4.rule
  have rx4 := kx4.rule
  have rg4 := (hk4.cell y).trans hcg
  have fg4 := hk4.frozen y
  have hz3' : w.heap.size + 2 < w3.heap.size := by omega
  rw [HL.out]
  go_upto_region 4 with (fail)
  generalize w3.alloc (.cells #[.slice (some ⟨g, 0, none⟩) 4 d, .int .i64 m] 46) = w4 at *
  have kx5a := kx4.far (p := ⟨g, y, none⟩) (by show w3.heap.size ≠ g; omega) (.int .i64 was)
  have kr5a := kr4.far (p := ⟨g, y, none⟩) (by show w.heap.size + 1 + 1 ≠ g; omega) (.int .i64 was)
  have hbz : w.heap.size ≤ w2.heap.size := by omega
  have ho5 := Lib.hid (OI.set7 (y := y) (v := was) ho4.out (by rw [HL.out]; omega))
  have kx5 := kx5a
  have kr5 := kr5a
  clear kx5a kr5a
  have rx5_0 := kx5.rule
  have fx5_0 := fun i => kx5.frozen i
  have rr5_0 := kr5.rule
  have fr5_0 := fun i => kr5.frozen i
  have kx5_1 : Blk ((w4.setCell ⟨g, y, none⟩ (.int .i64 was)).setCell ⟨w3.heap.size, 1, none⟩ (.int .i64 (m - 1))) (w3.heap.size) 46 #[.slice (some ⟨g, 0, none⟩) 4 d, .int .i64 (m - 1)] := kx5.set_ 1 _
  have kr5_1 := kr5.far (p := ⟨w3.heap.size, 1, none⟩) (by show w.heap.size + 1 + 1 ≠ w3.heap.size; omega) (.int .i64 (m - 1))
  have rx5_1 := kx5_1.rule
  have fx5_1 := fun i => kx5_1.frozen i
  have rr5_1 := kr5_1.rule
  have fr5_1 := fun i => kr5_1.frozen i
  have kx5_2 := kx5_1.far (p := ⟨w.heap.size + 1 + 1, 0, none⟩) (by show w3.heap.size ≠ w.heap.size + 1 + 1; omega) (.slice (some ⟨g, 0, none⟩) 4 d)
  have kr5_2 : Blk (((w4.setCell ⟨g, y, none⟩ (.int .i64 was)).setCell ⟨w3.heap.size, 1, none⟩ (.int .i64 (m - 1))).setCell ⟨w.heap.size + 1 + 1, 0, none⟩ (.slice (some ⟨g, 0, none⟩) 4 d)) (w.heap.size + 1 + 1) 46 #[.slice (some ⟨g, 0, none⟩) 4 d, .int .i64 0] := kr5_1.set_ 0 _
  have rx5_2 := kx5_2.rule
  have fx5_2 := fun i => kx5_2.frozen i
  have rr5_2 := kr5_2.rule
  have fr5_2 := fun i => kr5_2.frozen i
  have kx5_3 := kx5_2.far (p := ⟨w.heap.size + 1 + 1, 1, none⟩) (by show w3.heap.size ≠ w.heap.size + 1 + 1; omega) (.int .i64 (m - 1))
  have kr5_3 : Blk ((((w4.setCell ⟨g, y, none⟩ (.int .i64 was)).setCell ⟨w3.heap.size, 1, none⟩ (.int .i64 (m - 1))).setCell ⟨w.heap.size + 1 + 1, 0, none⟩ (.slice (some ⟨g, 0, none⟩) 4 d)).setCell ⟨w.heap.size + 1 + 1, 1, none⟩ (.int .i64 (m - 1))) (w.heap.size + 1 + 1) 46 #[.slice (some ⟨g, 0, none⟩) 4 d, .int .i64 (m - 1)] := kr5_2.set_ 1 _
  have rx5_3 := kx5_3.rule
  have fx5_3 := fun i => kx5_3.frozen i
  have rr5_3 := kr5_3.rule
  have fr5_3 := fun i => kr5_3.frozen i
  go_wp2
  refine bodyPost_ret (v := .tuple #[.agg #[.slice (some ⟨g, 0, none⟩) 4 d, .int .i64 (m - 1)], .bool true]) (by simp [results, Tryd.results22, go_sem, rr5_3]) rfl ⟨some ⟨g, 0, none⟩, d, by rw [List.length_set, HL.out], ?_, ?_⟩
  · exact OI.more (OI.set_ (OI.set_ (far7 ho5.out (by show g ≠ w3.heap.size; omega) _) (by show w.heap.size + 1 + 1 < w2.heap.size; omega) _) (by show w.heap.size + 1 + 1 < w2.heap.size; omega) _) hbz
  · exact Below.setCell (Below.setCell (Below.setCell (Below.setCell hB4 (by show w.heap.size ≤ g; omega) _) (by show w.heap.size ≤ w3.heap.size; omega) _) (by show w.heap.size ≤ w.heap.size + 1 + 1; omega) _) (by show w.heap.size ≤ w.heap.size + 1 + 1; omega) _
end Go.Proofs.YtbogagddjkghhaaDoor.V
