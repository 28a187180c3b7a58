/-
  StoreDo of the model and of the program: contracts. No statement is proved here.
-/
import Derived.Test.YtbogagddjkghhaaDoorStD
set_option linter.unusedVariables false
set_option maxRecDepth 100000
namespace Go.Proofs.YtbogagddjkghhaaDoor.V
open Go.RowKit Go.Proofs.YtbogagddjkghhaaDoor.B
def doQ (vs : List Int) (m k y n : Int) : Bool := stB vs m && cmdB k y n && decide (m < 1000)
def doU (vs : List Int) (m k y n : Int) : List Int := if doQ vs m k y n then doX vs k y.toNat n else []
def doM (vs : List Int) (m k y n : Int) : Int := if doQ vs m k y n then m + 1 else 0
def doR (vs : List Int) (m k y n : Int) : Int := if doQ vs m k y n then vs.getD y.toNat 0 else -1
theorem doU_small (vs : List Int) (m k y n : Int) : (doU vs m k y n).length ≤ 1048576 := by
  unfold doU
  rcases hq : doQ vs m k y n with _ | _
  · simp
  · rw [if_pos rfl, doX_len]
    unfold doQ at hq
    simp only [Bool.and_eq_true] at hq
    have := (stB_yes hq.1.1).1
    omega
theorem do_no {vs : List Int} {m k y n : Int} (h : doQ vs m k y n = false) : doU vs m k y n = [] ∧ doM vs m k y n = 0 ∧ doR vs m k y n = -1 := by
  simp [doU, doM, doR, h]
theorem do_yes {vs : List Int} {m k n : Int} {y : Nat} (h : doQ vs m k y n = true) : doU vs m k y n = doX vs k y n ∧ doM vs m k y n = m + 1 ∧ doR vs m k y n = vs.getD y 0 := by
  unfold doU doM doR
  rw [h, Int.toNat_natCast]
  exact ⟨rfl, rfl, rfl⟩
theorem sg_none {w w' : World} {r : Value} (hB : Below w.heap.size w w') : SG [] 0 r w (.returned (.tuple #[.agg #[.slice none 0 0, .int .i64 0], r])) w' := ⟨none, 0, rfl, OI.nil_, hB⟩
set_option maxHeartbeats 3200000 in
theorem implStoreDo_any (A : Option Addr) (c : Nat) (vs : List Int) (m k y n : Int) (w : World) (hr : RdI w w.heap.size A vs) (hn : vs.length ≤ 1048576) :
    Calls Tryd.prog 20 #[.agg #[.slice A vs.length c, .int .i64 m], .agg #[.int .i64 k, .int .i64 y, .int .i64 n]] w (SG (doU vs m k y n) (doM vs m k y n) (.int .i64 (doR vs m k y n)) w) := by
  have ka := ((Blk.new w 46 #[.slice A vs.length c, .int .i64 m]).alloc (.cells #[.int .i64 k, .int .i64 y, .int .i64 n] 48)).alloc (.cells #[.slice none 0 0, .int .i64 0] 46)
  have kc := (Blk.new (w.alloc (.cells #[.slice A vs.length c, .int .i64 m] 46)) 48 #[.int .i64 k, .int .i64 y, .int .i64 n]).alloc (.cells #[.slice none 0 0, .int .i64 0] 46)
  have kr := Blk.new ((w.alloc (.cells #[.slice A vs.length c, .int .i64 m] 46)).alloc (.cells #[.int .i64 k, .int .i64 y, .int .i64 n] 48)) 46 #[.slice none 0 0, .int .i64 0]
  simp only [World.size_alloc] at kc kr
  have hB := up_ (up_ (up_ (Below.refl w.heap.size w) (.cells #[.slice A vs.length c, .int .i64 m] 46)) (.cells #[.int .i64 k, .int .i64 y, .int .i64 n] 48)) (.cells #[.slice none 0 0, .int .i64 0] 46)
  have hr1 := ((hr.up (.cells #[.slice A vs.length c, .int .i64 m] 46)).up (.cells #[.int .i64 k, .int .i64 y, .int .i64 n] 48)).up (.cells #[.slice none 0 0, .int .i64 0] 46)
  have HR := Lib.hid hr1
  clear hr1 hr
  rcases hq : stB vs m with _ | _
  · obtain ⟨e1, e2, e3⟩ := do_no (vs := vs) (m := m) (k := k) (y := y) (n := n) (by simp [doQ, hq])
    rw [e1, e2, e3]
    have HQ := Lib.hid hq; clear hq e1 e2 e3
    go_enter Tryd.func20, Tryd.ntmps20
    go_wp2_with fail
    with_reducible refine (implStoreOk_is false A c vs m HQ.out _ HR.out hn).mono ?_
    rintro e w1 ⟨rfl, hb⟩
    have ka1 := ka.on hb
    have kc1 := kc.on hb
    have kr1 := kr.on hb
    have hB1 := on_ hB hb
    have hr1 := Lib.hid (HR.out.on hb)
    clear hb ka kc kr hB HR
    have rr1_0 := kr1.rule
    have fr1_0 := fun i => kr1.frozen i
    have kr1_1 : Blk (w1.setCell ⟨w.heap.size + 1 + 1, 0, none⟩ (.slice none 0 0)) (w.heap.size + 1 + 1) 46 #[.slice none 0 0, .int .i64 0] := kr1.set_ 0 _
    have rr1_1 := kr1_1.rule
    have fr1_1 := fun i => kr1_1.frozen i
    have kr1_2 : Blk ((w1.setCell ⟨w.heap.size + 1 + 1, 0, none⟩ (.slice none 0 0)).setCell ⟨w.heap.size + 1 + 1, 1, none⟩ (.int .i64 0)) (w.heap.size + 1 + 1) 46 #[.slice none 0 0, .int .i64 0] := kr1_1.set_ 1 _
    have rr1_2 := kr1_2.rule
    have fr1_2 := fun i => kr1_2.frozen i
    go_wp2
    refine bodyPost_ret (v := .tuple #[.agg #[.slice none 0 0, .int .i64 0], .int .i64 (-1)]) (by simp [results, Tryd.results20, go_sem, rr1_2]) rfl (sg_none ?_)
    iterate 2 refine Below.setCell ?_ (by simp <;> omega) _
    exact hB1
  · rcases hp : cmdB k y n with _ | _
    · obtain ⟨e1, e2, e3⟩ := do_no (vs := vs) (m := m) (k := k) (y := y) (n := n) (by simp [doQ, hp])
      rw [e1, e2, e3]
      have HQ := Lib.hid hq; have HP := Lib.hid hp; clear hq hp e1 e2 e3
      go_enter Tryd.func20, Tryd.ntmps20
      go_wp2_with fail
      with_reducible refine (implStoreOk_is true A c vs m HQ.out _ HR.out hn).mono ?_
      rintro e w1 ⟨rfl, hb⟩
      have ka1 := ka.on hb
      have kc1 := kc.on hb
      have kr1 := kr.on hb
      have hB1 := on_ hB hb
      have hr1 := Lib.hid (HR.out.on hb)
      clear hb ka kc kr hB HR
      have ra1 := ka1.rule
      have rc1 := kc1.rule
      go_wp2_with fail
      with_reducible refine (implCmdOk_is false k y n HP.out _).mono ?_
      rintro e w2 ⟨rfl, hb⟩
      have ka2 := ka1.on hb
      have kc2 := kc1.on hb
      have kr2 := kr1.on hb
      have hB2 := on_ hB1 hb
      have hr2 := Lib.hid (hr1.out.on hb)
      clear ra1 rc1 hb ka1 kc1 kr1 hB1 hr1
      have rr2_0 := kr2.rule
      have fr2_0 := fun i => kr2.frozen i
      have kr2_1 : Blk (w2.setCell ⟨w.heap.size + 1 + 1, 0, none⟩ (.slice none 0 0)) (w.heap.size + 1 + 1) 46 #[.slice none 0 0, .int .i64 0] := kr2.set_ 0 _
      have rr2_1 := kr2_1.rule
      have fr2_1 := fun i => kr2_1.frozen i
      have kr2_2 : Blk ((w2.setCell ⟨w.heap.size + 1 + 1, 0, none⟩ (.slice none 0 0)).setCell ⟨w.heap.size + 1 + 1, 1, none⟩ (.int .i64 0)) (w.heap.size + 1 + 1) 46 #[.slice none 0 0, .int .i64 0] := kr2_1.set_ 1 _
      have rr2_2 := kr2_2.rule
      have fr2_2 := fun i => kr2_2.frozen i
      go_wp2
      refine bodyPost_ret (v := .tuple #[.agg #[.slice none 0 0, .int .i64 0], .int .i64 (-1)]) (by simp [results, Tryd.results20, go_sem, rr2_2]) rfl (sg_none ?_)
      iterate 2 refine Below.setCell ?_ (by simp <;> omega) _
      exact hB2
    · obtain ⟨hm0, hm1⟩ : 0 ≤ m ∧ m ≤ 1000 := ⟨(stB_yes hq).2.1, (stB_yes hq).2.2.1⟩
      by_cases hlim : m < 1000
      · obtain ⟨l4, _, _, hall⟩ := stB_yes hq
        obtain ⟨hk0, hk1, hy0, hy1, hn0, hn1, _⟩ := cmdB_yes hp
        obtain ⟨y, rfl⟩ : ∃ z : Nat, y = z := ⟨y.toNat, by omega⟩
        obtain ⟨e1, e2, e3⟩ := do_yes (vs := vs) (m := m) (k := k) (y := y) (n := n) (by simp [doQ, hp, hq, hlim])
        rw [e1, e2, e3]
        have hxy := hall y (by omega)
        have HQ := Lib.hid hq; have HP := Lib.hid hp; clear hq hp e1 e2 e3
        have HL := Lib.hid l4; have HXY := Lib.hid hxy; clear hxy hall l4
        have hlim' : (m == 1000) = false := by simp; omega
        go_enter Tryd.func20, Tryd.ntmps20
        go_wp2_with fail
        with_reducible refine (implStoreOk_is true A c vs m HQ.out _ HR.out hn).mono ?_
        rintro e w1 ⟨rfl, hb⟩
        have ka1 := ka.on hb
        have kc1 := kc.on hb
        have kr1 := kr.on hb
        have hB1 := on_ hB hb
        have hr1 := Lib.hid (HR.out.on hb)
        clear hb ka kc kr hB HR
        have ra1 := ka1.rule
        have rc1 := kc1.rule
        go_wp2_with fail
        with_reducible refine (implCmdOk_is true k y n HP.out _).mono ?_
        rintro e w2 ⟨rfl, hb⟩
        have ka2 := ka1.on hb
        have kc2 := kc1.on hb
        have kr2 := kr1.on hb
        have hB2 := on_ hB1 hb
        have hr2 := Lib.hid (hr1.out.on hb)
        clear ra1 rc1 hb ka1 kc1 kr1 hB1 hr1
        have ra2 := ka2.rule
        have rc2 := kc2.rule
        go_wp2_with fail
        with_reducible refine (copied_any A c vs m w2 hr2.out hn).mono ?_
        rintro e w3 ⟨B, d, rfl, hd, ho, hb⟩
        have kc3 := kc2.on hb
        have kr3 := kr2.on hb
        have hB3 := on_ hB2 hb
        have hrl := kr2.lt
        have hz3 := hb.size
        obtain ⟨g, cs, rfl, hgb, hk, hpi⟩ := ho.row7 (by rw [HL.out]; omega)
        have hgl := hk.lt
        have hdl := doX_len vs k y n
        rw [HL.out] at hd hdl
        have HDL := Lib.hid hdl
        have ho := Lib.hid ho
        have HPI := Lib.hid hpi
        clear hb ra2 rc2 ka2 kc2 kr2 hB2 hr2 hpi hk hdl
        have kx4 : Blk (w3.alloc (.cells #[.slice (some ⟨g, 0, none⟩) 4 d, .int .i64 m] 46)) w3.heap.size 46 #[.slice (some ⟨g, 0, none⟩) 4 d, .int .i64 m] := Blk.new _ _ _
        have kc4 := kc3.alloc (.cells #[.slice (some ⟨g, 0, none⟩) 4 d, .int .i64 m] 46)
        have kr4 := kr3.alloc (.cells #[.slice (some ⟨g, 0, none⟩) 4 d, .int .i64 m] 46)
        have hB4 := up_ hB3 (.cells #[.slice (some ⟨g, 0, none⟩) 4 d, .int .i64 m] 46)
        have ho4 := Lib.hid (ho.out.up (.cells #[.slice (some ⟨g, 0, none⟩) 4 d, .int .i64 m] 46))
        have rc4 := kc4.rule
        rw [HL.out]
        go_wp2_with fail
        generalize w3.alloc (.cells #[.slice (some ⟨g, 0, none⟩) 4 d, .int .i64 m] 46) = w4 at *
        clear rc4
        refine (exec_any w2.heap.size w3.heap.size g d m k n y vs w4 HL.out (by omega) hk0 hk1 hn0 (by omega) hm0 (by omega) HXY.out kx4 ho4.out (by omega) hz3).mono ?_
        rintro e w5 ⟨rfl, kx5, ho5, hb5⟩
        have kr5 := kr4.below hb5 (by omega)
        have hz5 : w.heap.size ≤ w2.heap.size := by omega
        have hB5 := hB4.trans (hb5.mono hz5)
        clear kx4 kc4 kr4 hB4 ho4 hb5 kc3 kr3 hB3 ho
        have rr5_0 := kr5.rule
        have fr5_0 := fun i => kr5.frozen i
        have rx5_0 := kx5.rule
        have fx5_0 := fun i => kx5.frozen i
        have kr5_1 : Blk (w5.setCell ⟨w.heap.size + 1 + 1, 0, none⟩ (.slice (some ⟨g, 0, none⟩) 4 d)) (w.heap.size + 1 + 1) 46 #[.slice (some ⟨g, 0, none⟩) 4 d, .int .i64 0] := kr5.set_ 0 _
        have kx5_1 := kx5.far (p := ⟨w.heap.size + 1 + 1, 0, none⟩) (by simp <;> omega) (.slice (some ⟨g, 0, none⟩) 4 d)
        have rr5_1 := kr5_1.rule
        have fr5_1 := fun i => kr5_1.frozen i
        have rx5_1 := kx5_1.rule
        have fx5_1 := fun i => kx5_1.frozen i
        have kr5_2 : Blk ((w5.setCell ⟨w.heap.size + 1 + 1, 0, none⟩ (.slice (some ⟨g, 0, none⟩) 4 d)).setCell ⟨w.heap.size + 1 + 1, 1, none⟩ (.int .i64 (m + 1))) (w.heap.size + 1 + 1) 46 #[.slice (some ⟨g, 0, none⟩) 4 d, .int .i64 (m + 1)] := kr5_1.set_ 1 _
        have kx5_2 := kx5_1.far (p := ⟨w.heap.size + 1 + 1, 1, none⟩) (by simp <;> omega) (.int .i64 (m + 1))
        have rr5_2 := kr5_2.rule
        have fr5_2 := fun i => kr5_2.frozen i
        have rx5_2 := kx5_2.rule
        have fx5_2 := fun i => kx5_2.frozen i
        go_wp2
        refine bodyPost_ret (v := .tuple #[.agg #[.slice (some ⟨g, 0, none⟩) 4 d, .int .i64 (m + 1)], .int .i64 (vs.getD y 0)]) (by simp [results, Tryd.results20, go_sem, rr5_2]) rfl ⟨some ⟨g, 0, none⟩, d, by rw [HDL.out], ?_, ?_⟩
        · exact OI.more (OI.set_ (OI.set_ ho5 (by show w.heap.size + 1 + 1 < w2.heap.size; omega) _) (by show w.heap.size + 1 + 1 < w2.heap.size; omega) _) hz5
        · iterate 2 refine Below.setCell ?_ (by simp <;> omega) _
          exact hB5
      · obtain rfl : m = 1000 := by omega
        obtain ⟨e1, e2, e3⟩ := do_no (vs := vs) (m := 1000) (k := k) (y := y) (n := n) (by simp [doQ])
        rw [e1, e2, e3]
        have HQ := Lib.hid hq; have HP := Lib.hid hp; clear hq hp e1 e2 e3
        go_enter Tryd.func20, Tryd.ntmps20
        go_wp2_with fail
        with_reducible refine (implStoreOk_is true A c vs 1000 HQ.out _ HR.out hn).mono ?_
        rintro e w1 ⟨rfl, hb⟩
        have ka1 := ka.on hb
        have kc1 := kc.on hb
        have kr1 := kr.on hb
        have hB1 := on_ hB hb
        have hr1 := Lib.hid (HR.out.on hb)
        clear hb ka kc kr hB HR
        have ra1 := ka1.rule
        have rc1 := kc1.rule
        go_wp2_with fail
        with_reducible refine (implCmdOk_is true k y n HP.out _).mono ?_
        rintro e w2 ⟨rfl, hb⟩
        have ka2 := ka1.on hb
        have kc2 := kc1.on hb
        have kr2 := kr1.on hb
        have hB2 := on_ hB1 hb
        have hr2 := Lib.hid (hr1.out.on hb)
        clear ra1 rc1 hb ka1 kc1 kr1 hB1 hr1
        have ra2 := ka2.rule
        have rr2_0 := kr2.rule
        have fr2_0 := fun i => kr2.frozen i
        have kr2_1 : Blk (w2.setCell ⟨w.heap.size + 1 + 1, 0, none⟩ (.slice none 0 0)) (w.heap.size + 1 + 1) 46 #[.slice none 0 0, .int .i64 0] := kr2.set_ 0 _
        have rr2_1 := kr2_1.rule
        have fr2_1 := fun i => kr2_1.frozen i
        have kr2_2 : Blk ((w2.setCell ⟨w.heap.size + 1 + 1, 0, none⟩ (.slice none 0 0)).setCell ⟨w.heap.size + 1 + 1, 1, none⟩ (.int .i64 0)) (w.heap.size + 1 + 1) 46 #[.slice none 0 0, .int .i64 0] := kr2_1.set_ 1 _
        have rr2_2 := kr2_2.rule
        have fr2_2 := fun i => kr2_2.frozen i
        go_wp2
        refine bodyPost_ret (v := .tuple #[.agg #[.slice none 0 0, .int .i64 0], .int .i64 (-1)]) (by simp [results, Tryd.results20, go_sem, rr2_2]) rfl (sg_none ?_)
        iterate 2 refine Below.setCell ?_ (by simp <;> omega) _
        exact hB2
end Go.Proofs.YtbogagddjkghhaaDoor.V
