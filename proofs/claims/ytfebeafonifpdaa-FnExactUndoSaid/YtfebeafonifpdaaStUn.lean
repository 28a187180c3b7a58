/-
  Undo of the model and of the program: contracts. No statement is proved here.
-/
import Derived.Test.YtfebeafonifpdaaStDo
import Derived.Deep.Cut
set_option linter.unusedVariables false
set_option maxRecDepth 100000
namespace Go.Proofs.Ytfebeafonifpdaa.V
open Go.RowKit Go.Proofs.Ytfebeafonifpdaa.B
theorem far7 {w : World} {t base g : Nat} {xs : List Int} (h : OI w t base (some ⟨g, 0, none⟩) xs) {p : Addr} (hne : g ≠ p.block) (u : Value) : OI (w.setCell p u) t base (some ⟨g, 0, none⟩) xs := by
  rcases h with ⟨h, _⟩ | ⟨g2, cur, e2, hb2, hk2, hq2⟩
  · cases h
  · injection e2 with e2
    injection e2 with e2
    subst e2
    exact .inr ⟨_, cur, rfl, hb2, hk2.far hne _, hq2⟩
def unQ (vs : List Int) (m k y n was : Int) : Bool := stB vs m && cmdB k y n && decide (m ≠ 0) && inB was
def unU (vs : List Int) (m k y n was : Int) : List Int := if unQ vs m k y n was then vs.set y.toNat was else []
def unM (vs : List Int) (m k y n was : Int) : Int := if unQ vs m k y n was then m - 1 else 0
theorem unU_small (vs : List Int) (m k y n was : Int) : (unU vs m k y n was).length ≤ 1048576 := by
  unfold unU
  rcases hq : unQ vs m k y n was with _ | _
  · simp
  · rw [if_pos rfl, List.length_set]
    unfold unQ at hq
    simp only [Bool.and_eq_true] at hq
    have := (stB_yes hq.1.1.1).1
    omega
theorem un_no {vs : List Int} {m k y n was : Int} (h : unQ vs m k y n was = false) : unU vs m k y n was = [] ∧ unM vs m k y n was = 0 ∧ unQ vs m k y n was = false := by
  simp [unU, unM, h]
theorem un_yes {vs : List Int} {m k n was : Int} {y : Nat} (h : unQ vs m k y n was = true) : unU vs m k y n was = vs.set y was ∧ unM vs m k y n was = m - 1 ∧ unQ vs m k y n was = true := by
  unfold unU unM
  rw [h, Int.toNat_natCast]
  exact ⟨rfl, rfl, rfl⟩
set_option maxHeartbeats 3200000 in
theorem specUndo_any (A : Option Addr) (c : Nat) (vs : List Int) (m k y n was : Int) (w : World) (hr : RdI w w.heap.size A vs) (hn : vs.length ≤ 1048576) :
    Calls Try.prog 58 #[.agg #[.slice A vs.length c, .int .i64 m], .agg #[.int .i64 k, .int .i64 y, .int .i64 n], .int .i64 was] w (SG (unU vs m k y n was) (unM vs m k y n was) (.bool (unQ vs m k y n was)) w) := by
  have ka := ((Blk.new w 36 #[.slice A vs.length c, .int .i64 m]).alloc (.cells #[.int .i64 k, .int .i64 y, .int .i64 n] 24)).alloc (.cells #[.slice none 0 0, .int .i64 0] 36)
  have kc := (Blk.new (w.alloc (.cells #[.slice A vs.length c, .int .i64 m] 36)) 24 #[.int .i64 k, .int .i64 y, .int .i64 n]).alloc (.cells #[.slice none 0 0, .int .i64 0] 36)
  have kr := Blk.new ((w.alloc (.cells #[.slice A vs.length c, .int .i64 m] 36)).alloc (.cells #[.int .i64 k, .int .i64 y, .int .i64 n] 24)) 36 #[.slice none 0 0, .int .i64 0]
  simp only [World.size_alloc] at kc kr
  have hB := up_ (up_ (up_ (Below.refl w.heap.size w) (.cells #[.slice A vs.length c, .int .i64 m] 36)) (.cells #[.int .i64 k, .int .i64 y, .int .i64 n] 24)) (.cells #[.slice none 0 0, .int .i64 0] 36)
  have hr1 := ((hr.up (.cells #[.slice A vs.length c, .int .i64 m] 36)).up (.cells #[.int .i64 k, .int .i64 y, .int .i64 n] 24)).up (.cells #[.slice none 0 0, .int .i64 0] 36)
  have HR := Lib.hid hr1
  clear hr1 hr
  rcases hq : stB vs m with _ | _
  · obtain ⟨e1, e2, e3⟩ := un_no (vs := vs) (m := m) (k := k) (y := y) (n := n) (was := was) (by simp [unQ, hq])
    rw [e1, e2, e3]
    have HQ := Lib.hid hq; clear hq e1 e2 e3
    go_enter Try.func58, Try.ntmps58
    go_wp2_with fail
    with_reducible refine (specStoreOk_is false A c vs m HQ.out _ HR.out hn).mono ?_
    rintro e w1 ⟨rfl, hb⟩
    have ka1 := ka.on hb
    have kc1 := kc.on hb
    have kr1 := kr.on hb
    have hB1 := on_ hB hb
    have hr1 := Lib.hid (HR.out.on hb)
    clear hb ka kc kr hB HR
    have rr1_0 := kr1.rule
    have fr1_0 := fun i => kr1.frozen i
    have kr1_1 : Blk (w1.setCell ⟨w.heap.size + 1 + 1, 0, none⟩ (.slice none 0 0)) (w.heap.size + 1 + 1) 36 #[.slice none 0 0, .int .i64 0] := kr1.set_ 0 _
    have rr1_1 := kr1_1.rule
    have fr1_1 := fun i => kr1_1.frozen i
    have kr1_2 : Blk ((w1.setCell ⟨w.heap.size + 1 + 1, 0, none⟩ (.slice none 0 0)).setCell ⟨w.heap.size + 1 + 1, 1, none⟩ (.int .i64 0)) (w.heap.size + 1 + 1) 36 #[.slice none 0 0, .int .i64 0] := kr1_1.set_ 1 _
    have rr1_2 := kr1_2.rule
    have fr1_2 := fun i => kr1_2.frozen i
    go_wp2
    refine bodyPost_ret (v := .tuple #[.agg #[.slice none 0 0, .int .i64 0], .bool false]) (by simp [results, Try.results58, go_sem, rr1_2]) rfl (sg_none ?_)
    iterate 2 refine Below.setCell ?_ (by simp <;> omega) _
    exact hB1
  rcases hp : cmdB k y n with _ | _
  · obtain ⟨e1, e2, e3⟩ := un_no (vs := vs) (m := m) (k := k) (y := y) (n := n) (was := was) (by simp [unQ, hp])
    rw [e1, e2, e3]
    have HQ := Lib.hid hq; have HP := Lib.hid hp; clear hq hp e1 e2 e3
    go_enter Try.func58, Try.ntmps58
    go_wp2_with fail
    with_reducible refine (specStoreOk_is true A c vs m HQ.out _ HR.out hn).mono ?_
    rintro e w1 ⟨rfl, hb⟩
    have ka1 := ka.on hb
    have kc1 := kc.on hb
    have kr1 := kr.on hb
    have hB1 := on_ hB hb
    have hr1 := Lib.hid (HR.out.on hb)
    clear hb ka kc kr hB HR
    have ra1 := ka1.rule
    have rc1 := kc1.rule
    go_wp2_with fail
    with_reducible refine (specCmdOk_is false k y n HP.out _).mono ?_
    rintro e w2 ⟨rfl, hb⟩
    have ka2 := ka1.on hb
    have kc2 := kc1.on hb
    have kr2 := kr1.on hb
    have hB2 := on_ hB1 hb
    have hr2 := Lib.hid (hr1.out.on hb)
    clear ra1 rc1 hb ka1 kc1 kr1 hB1 hr1
    have rr2_0 := kr2.rule
    have fr2_0 := fun i => kr2.frozen i
    have kr2_1 : Blk (w2.setCell ⟨w.heap.size + 1 + 1, 0, none⟩ (.slice none 0 0)) (w.heap.size + 1 + 1) 36 #[.slice none 0 0, .int .i64 0] := kr2.set_ 0 _
    have rr2_1 := kr2_1.rule
    have fr2_1 := fun i => kr2_1.frozen i
    have kr2_2 : Blk ((w2.setCell ⟨w.heap.size + 1 + 1, 0, none⟩ (.slice none 0 0)).setCell ⟨w.heap.size + 1 + 1, 1, none⟩ (.int .i64 0)) (w.heap.size + 1 + 1) 36 #[.slice none 0 0, .int .i64 0] := kr2_1.set_ 1 _
    have rr2_2 := kr2_2.rule
    have fr2_2 := fun i => kr2_2.frozen i
    go_wp2
    refine bodyPost_ret (v := .tuple #[.agg #[.slice none 0 0, .int .i64 0], .bool false]) (by simp [results, Try.results58, go_sem, rr2_2]) rfl (sg_none ?_)
    iterate 2 refine Below.setCell ?_ (by simp <;> omega) _
    exact hB2
  obtain ⟨hm0, hm1⟩ : 0 ≤ m ∧ m ≤ 1000 := ⟨(stB_yes hq).2.1, (stB_yes hq).2.2.1⟩
  by_cases hz : m = 0
  · subst hz
    obtain ⟨e1, e2, e3⟩ := un_no (vs := vs) (m := 0) (k := k) (y := y) (n := n) (was := was) (by simp [unQ])
    rw [e1, e2, e3]
    have HQ := Lib.hid hq; have HP := Lib.hid hp; clear hq hp e1 e2 e3
    go_enter Try.func58, Try.ntmps58
    go_wp2_with fail
    with_reducible refine (specStoreOk_is true A c vs 0 HQ.out _ HR.out hn).mono ?_
    rintro e w1 ⟨rfl, hb⟩
    have ka1 := ka.on hb
    have kc1 := kc.on hb
    have kr1 := kr.on hb
    have hB1 := on_ hB hb
    have hr1 := Lib.hid (HR.out.on hb)
    clear hb ka kc kr hB HR
    have ra1 := ka1.rule
    have rc1 := kc1.rule
    go_wp2_with fail
    with_reducible refine (specCmdOk_is true k y n HP.out _).mono ?_
    rintro e w2 ⟨rfl, hb⟩
    have ka2 := ka1.on hb
    have kc2 := kc1.on hb
    have kr2 := kr1.on hb
    have hB2 := on_ hB1 hb
    have hr2 := Lib.hid (hr1.out.on hb)
    clear ra1 rc1 hb ka1 kc1 kr1 hB1 hr1
    have ra2 := ka2.rule
    have rr2_0 := kr2.rule
    have fr2_0 := fun i => kr2.frozen i
    have kr2_1 : Blk (w2.setCell ⟨w.heap.size + 1 + 1, 0, none⟩ (.slice none 0 0)) (w.heap.size + 1 + 1) 36 #[.slice none 0 0, .int .i64 0] := kr2.set_ 0 _
    have rr2_1 := kr2_1.rule
    have fr2_1 := fun i => kr2_1.frozen i
    have kr2_2 : Blk ((w2.setCell ⟨w.heap.size + 1 + 1, 0, none⟩ (.slice none 0 0)).setCell ⟨w.heap.size + 1 + 1, 1, none⟩ (.int .i64 0)) (w.heap.size + 1 + 1) 36 #[.slice none 0 0, .int .i64 0] := kr2_1.set_ 1 _
    have rr2_2 := kr2_2.rule
    have fr2_2 := fun i => kr2_2.frozen i
    go_wp2
    refine bodyPost_ret (v := .tuple #[.agg #[.slice none 0 0, .int .i64 0], .bool false]) (by simp [results, Try.results58, go_sem, rr2_2]) rfl (sg_none ?_)
    iterate 2 refine Below.setCell ?_ (by simp <;> omega) _
    exact hB2
  have hz0 : 1 ≤ m := by omega
  have hz' : (m == 0) = false := by simpa using hz
  clear hz
  rcases hw : inB was with _ | _
  · have HW := Lib.hid hw
    obtain ⟨e1, e2, e3⟩ := un_no (vs := vs) (m := m) (k := k) (y := y) (n := n) (was := was) (by simp [unQ, hw])
    rw [e1, e2, e3]
    have HQ := Lib.hid hq; have HP := Lib.hid hp; clear hq hp e1 e2 e3
    rcases inB_no hw with hw1 | hw1
    · clear hw
      go_enter Try.func58, Try.ntmps58
      go_wp2_with fail
      with_reducible refine (specStoreOk_is true A c vs m HQ.out _ HR.out hn).mono ?_
      rintro e w1 ⟨rfl, hb⟩
      have ka1 := ka.on hb
      have kc1 := kc.on hb
      have kr1 := kr.on hb
      have hB1 := on_ hB hb
      have hr1 := Lib.hid (HR.out.on hb)
      clear hb ka kc kr hB HR
      have ra1 := ka1.rule
      have rc1 := kc1.rule
      go_wp2_with fail
      with_reducible refine (specCmdOk_is true k y n HP.out _).mono ?_
      rintro e w2 ⟨rfl, hb⟩
      have ka2 := ka1.on hb
      have kc2 := kc1.on hb
      have kr2 := kr1.on hb
      have hB2 := on_ hB1 hb
      have hr2 := Lib.hid (hr1.out.on hb)
      clear ra1 rc1 hb ka1 kc1 kr1 hB1 hr1
      have ra2 := ka2.rule
      have rr2_0 := kr2.rule
      have fr2_0 := fun i => kr2.frozen i
      have kr2_1 : Blk (w2.setCell ⟨w.heap.size + 1 + 1, 0, none⟩ (.slice none 0 0)) (w.heap.size + 1 + 1) 36 #[.slice none 0 0, .int .i64 0] := kr2.set_ 0 _
      have rr2_1 := kr2_1.rule
      have fr2_1 := fun i => kr2_1.frozen i
      have kr2_2 : Blk ((w2.setCell ⟨w.heap.size + 1 + 1, 0, none⟩ (.slice none 0 0)).setCell ⟨w.heap.size + 1 + 1, 1, none⟩ (.int .i64 0)) (w.heap.size + 1 + 1) 36 #[.slice none 0 0, .int .i64 0] := kr2_1.set_ 1 _
      have rr2_2 := kr2_2.rule
      have fr2_2 := fun i => kr2_2.frozen i
      go_wp2
      refine bodyPost_ret (v := .tuple #[.agg #[.slice none 0 0, .int .i64 0], .bool false]) (by simp [results, Try.results58, go_sem, rr2_2]) rfl (sg_none ?_)
      iterate 2 refine Below.setCell ?_ (by simp <;> omega) _
      exact hB2
    · have hw2 : 0 ≤ was := by omega
      clear hw
      go_enter Try.func58, Try.ntmps58
      go_wp2_with fail
      with_reducible refine (specStoreOk_is true A c vs m HQ.out _ HR.out hn).mono ?_
      rintro e w1 ⟨rfl, hb⟩
      have ka1 := ka.on hb
      have kc1 := kc.on hb
      have kr1 := kr.on hb
      have hB1 := on_ hB hb
      have hr1 := Lib.hid (HR.out.on hb)
      clear hb ka kc kr hB HR
      have ra1 := ka1.rule
      have rc1 := kc1.rule
      go_wp2_with fail
      with_reducible refine (specCmdOk_is true k y n HP.out _).mono ?_
      rintro e w2 ⟨rfl, hb⟩
      have ka2 := ka1.on hb
      have kc2 := kc1.on hb
      have kr2 := kr1.on hb
      have hB2 := on_ hB1 hb
      have hr2 := Lib.hid (hr1.out.on hb)
      clear ra1 rc1 hb ka1 kc1 kr1 hB1 hr1
      have ra2 := ka2.rule
      have rr2_0 := kr2.rule
      have fr2_0 := fun i => kr2.frozen i
      have kr2_1 : Blk (w2.setCell ⟨w.heap.size + 1 + 1, 0, none⟩ (.slice none 0 0)) (w.heap.size + 1 + 1) 36 #[.slice none 0 0, .int .i64 0] := kr2.set_ 0 _
      have rr2_1 := kr2_1.rule
      have fr2_1 := fun i => kr2_1.frozen i
      have kr2_2 : Blk ((w2.setCell ⟨w.heap.size + 1 + 1, 0, none⟩ (.slice none 0 0)).setCell ⟨w.heap.size + 1 + 1, 1, none⟩ (.int .i64 0)) (w.heap.size + 1 + 1) 36 #[.slice none 0 0, .int .i64 0] := kr2_1.set_ 1 _
      have rr2_2 := kr2_2.rule
      have fr2_2 := fun i => kr2_2.frozen i
      go_wp2
      refine bodyPost_ret (v := .tuple #[.agg #[.slice none 0 0, .int .i64 0], .bool false]) (by simp [results, Try.results58, go_sem, rr2_2]) rfl (sg_none ?_)
      iterate 2 refine Below.setCell ?_ (by simp <;> omega) _
      exact hB2
  obtain ⟨l4, _, _, hall⟩ := stB_yes hq
  obtain ⟨hk0, hk1, hy0, hy1, hn0, hn1, _⟩ := cmdB_yes hp
  obtain ⟨y, rfl⟩ : ∃ z : Nat, y = z := ⟨y.toNat, by omega⟩
  obtain ⟨hw0, hw1⟩ := inB_yes hw
  have hzm : m ≠ 0 := by omega
  obtain ⟨e1, e2, e3⟩ := un_yes (vs := vs) (m := m) (k := k) (y := y) (n := n) (was := was) (by simp [unQ, hp, hq, hw, hzm])
  rw [e1, e2, e3]
  have HQ := Lib.hid hq; have HP := Lib.hid hp; have HW := Lib.hid hw; have HL := Lib.hid l4; clear hq hp e1 e2 e3 hw l4 hall hzm
  have g0 : (0 : Int) ≤ (y : Int) := by omega
  have g1 : (y : Int) < 4 := by omega
  go_enter Try.func58, Try.ntmps58
  go_wp2_with fail
  with_reducible refine (specStoreOk_is true A c vs m HQ.out _ HR.out hn).mono ?_
  rintro e w1 ⟨rfl, hb⟩
  have ka1 := ka.on hb
  have kc1 := kc.on hb
  have kr1 := kr.on hb
  have hB1 := on_ hB hb
  have hr1 := Lib.hid (HR.out.on hb)
  clear hb ka kc kr hB HR
  have ra1 := ka1.rule
  have rc1 := kc1.rule
  go_wp2_with fail
  with_reducible refine (specCmdOk_is true k y n HP.out _).mono ?_
  rintro e w2 ⟨rfl, hb⟩
  have ka2 := ka1.on hb
  have kc2 := kc1.on hb
  have kr2 := kr1.on hb
  have hB2 := on_ hB1 hb
  have hr2 := Lib.hid (hr1.out.on hb)
  clear ra1 rc1 hb ka1 kc1 kr1 hB1 hr1
  have ra2 := ka2.rule
  obtain ⟨b, off, rfl, hb0, hc⟩ := hr2.out (by rw [HL.out]; omega)
  obtain ⟨i0, hi0, hz0_, hz1_, hz2_⟩ := info_parts infoI7
  rw [HL.out] at ka2
  go_wp2
  clear ra2 hc
  have KP := Lib.hid ka2
  have HRD : Hid (∀ wx, Below w2.heap.size w2 wx → ∀ j u, (vs.map (Value.int .i64))[j]? = some u → wx.cell? ((⟨b, off, none⟩ : Addr).add j) = some u) := fun wx hwx j u hu => by
    obtain ⟨ad, e, _, h⟩ := hr2.out.reads.2 (by rw [HL.out]; omega)
    injection e with e
    subst e
    rw [hwx.cell (by rw [block_of_add]; exact hb0)]
    exact h j u hu
  refine wp_region_fin ?_ ?_ (LV w2 w.heap.size (some ⟨b, off, none⟩) c m (m - 1) vs) (LR w2 (m - 1) vs) 9 (by kernel_rfl) (by kernel_rfl) (by kernel_rfl) (by kernel_rfl) (by kernel_rfl) LV.keep ?_ ?_
  rotate_left
  · intro us; simp only [putL]; go_simp; exact rfl
  · refine Each.cons ?_ (Each.cons ?_ (Each.cons ?_ (Each.cons ?_ (Each.cons ?_ (Each.cons ?_ (Each.cons ?_ (Each.cons ?_ (Each.cons ?_ (Each.cons ?_ (Each.nil))))))))))
    · refine ⟨fun _ => ?_, fun h => absurd h (by decide)⟩
      intro us wx hW hD Q K hK
      go_simp
      exact hK _ _ (.slice (some ⟨wx.heap.size, 0, none⟩) 0 0) (by go_simp) ((Below.refl _ _).alloc (Nat.le_refl _) _) ⟨_, rfl⟩
    · refine ⟨fun _ => ?_, fun h => absurd h (by decide)⟩
      intro us wx hW hD Q K hK
      go_simp
      exact hK _ _ (.pointer (some ⟨w.heap.size, 0, none⟩)) (by go_simp) (Below.refl _ _) rfl
    · refine ⟨fun _ => ?_, fun h => absurd h (by decide)⟩
      intro us wx hW hD Q K hK
      have e1 : us 1 = _ := hD 1 (by decide)
      have rp := (KP.out.below hW KP.out.lt).rule
      go_simp
      exact hK _ _ (.slice (some ⟨b, off, none⟩) 4 c) (by go_simp) (Below.refl _ _) rfl
    · refine ⟨fun _ => ?_, fun h => absurd h (by decide)⟩
      intro us wx hW hD Q K hK
      obtain ⟨b0, e0⟩ := hD 0 (by decide)
      have e2 : us 2 = _ := hD 2 (by decide)
      have hrd := HRD.out wx hW
      refine step_append_grows rfl (.tmp 31) (.tmp 33) 34 rfl 3 i0 (.int .i64 0) 1 8 Try.underlying34 hi0 hz0_ hz1_ hz2_ rfl (by omega) (some ⟨b0, 0, none⟩) 0 0 [] (by show us 0 = _; exact e0) (fun h => by cases h) rfl (fun _ _ j u h => by simp at h) ⟨b, off, none⟩ 4 c (vs.map (Value.int .i64)) (by show us 2 = _; exact e2) (by simp [HL.out]) hrd (one7 vs) (by omega) (by unfold maxLen; omega) (by omega) ?_
      intro v' w' hown hgr
      obtain ⟨B, d, rfl⟩ := form7 hown
      simp only [Nat.zero_add, List.nil_append] at hown ⊢
      exact hK _ _ (.slice B 4 d) rfl ⟨hgr.os, hgr.tape, hgr.output, hgr.size, fun i hi => hgr.block i hi (by simp)⟩ ⟨B, d, rfl, own_more3 hown hW.size⟩
    · refine ⟨fun _ => ?_, fun h => absurd h (by decide)⟩
      intro us wx hW hD Q K hK
      go_simp
      exact hK _ _ (.pointer (some ⟨w.heap.size, 1, none⟩)) (by go_simp) (Below.refl _ _) rfl
    · refine ⟨fun _ => ?_, fun h => absurd h (by decide)⟩
      intro us wx hW hD Q K hK
      have e4 : us 4 = _ := hD 4 (by decide)
      have rp := (KP.out.below hW KP.out.lt).rule
      go_simp
      exact hK _ _ (.int .i64 m) (by go_simp) (Below.refl _ _) rfl
    · refine ⟨fun _ => ?_, fun h => absurd h (by decide)⟩
      intro us wx hW hD Q K hK
      have e5 : us 5 = _ := hD 5 (by decide)
      have hw6 : IntKind.i64.wrap (m - 1) = m - 1 := IntWalk.i64_in _ (by omega)
      go_simp
      exact hK _ _ (.int .i64 (m - 1)) (by go_simp) (Below.refl _ _) rfl
    · refine ⟨fun _ => ?_, fun h => absurd h (by decide)⟩
      intro us wx hW hD Q K hK
      obtain ⟨B, d, e3, ho⟩ := hD 3 (by decide)
      have e6 : us 6 = _ := hD 6 (by decide)
      go_simp
      exact hK _ _ (.agg #[.slice B 4 d, .int .i64 (m - 1)]) (by go_simp) (Below.refl _ _) ⟨B, d, rfl, ho⟩
    · refine ⟨fun _ => ?_, fun h => absurd h (by decide)⟩
      intro us wx hW hD Q K hK
      go_simp
      exact hK _ _ (.pointer (some ⟨wx.heap.size, 0, none⟩)) (by go_simp) ((Below.refl _ _).alloc (Nat.le_refl _) _) ⟨_, rfl, hW.size, Blk.new _ _ _⟩
    · refine ⟨fun h => absurd rfl h, fun _ => ?_⟩
      intro us wx hW hD Q K hK
      obtain ⟨B, d, e7, ho⟩ := hD 7 (by decide)
      obtain ⟨o, e8, hlo, hko⟩ := hD 8 (by decide)
      have ro := hko.rule
      have fo := fun i => hko.frozen i
      have ro1 : ∀ i, (wx.setCell ⟨o, 0, none⟩ (.slice B 4 d)).cell? ⟨o, i, none⟩ = _ := (hko.set_ 0 (.slice B 4 d)).rule
      have fo1 := fun i => (hko.set_ 0 (.slice B 4 d)).frozen i
      go_simp
      exact hK _ _ undef (by go_simp) (LR.mk HL.out e8 hlo hko ho hW)
  intro us' w3 hR
  obtain ⟨o, B, d, e8, hlo, hd, ko, ho, hb3⟩ := hR
  simp only [e8]
  clear e8
  generalize us' 0 = z0; generalize us' 1 = z1; generalize us' 2 = z2; generalize us' 3 = z3; generalize us' 4 = z4; generalize us' 5 = z5; generalize us' 6 = z6; generalize us' 7 = z7
  clear us'
  have kc3 := kc2.on hb3
  have kr3 := kr2.on hb3
  have hB3 := on_ hB2 hb3
  have hw2 : w.heap.size + 2 < w2.heap.size := kr2.lt
  clear KP HRD ka2 kc2 kr2 hB2 hb3 hr2
  obtain ⟨g, cs, rfl, hgb, hk, hpi⟩ := ho.row7 (by rw [HL.out]; omega)
  have hcg := hpi.2 y (by rw [HL.out]; omega)
  have hgo : g ≠ o := fun e => by
    subst e
    have h1 := hk.symm.trans ko
    injection h1 with h1
    injection h1 with _ h1
    exact absurd h1 (by decide)
  have hgl := hk.lt
  have ro := ko.rule
  have rc := kc3.rule
  have rg := (hk.cell y).trans hcg
  have fg := hk.frozen y
  have ko4 := ko.far (p := ⟨g, y, none⟩) (fun e => hgo e.symm) (.int .i64 was)
  have kr4 := kr3.far (p := ⟨g, y, none⟩) (by show w.heap.size + 1 + 1 ≠ g; omega) (.int .i64 was)
  have ho4 := Lib.hid (OI.set7 (y := y) (v := was) ho (by rw [HL.out]; omega))
  clear hpi hcg ho
  have rr4_0 := kr4.rule
  have fr4_0 := fun i => kr4.frozen i
  have ro4_0 := ko4.rule
  have fo4_0 := fun i => ko4.frozen i
  have kr4_1 : Blk ((w3.setCell ⟨g, y, none⟩ (.int .i64 was)).setCell ⟨w.heap.size + 1 + 1, 0, none⟩ (.slice (some ⟨g, 0, none⟩) 4 d)) (w.heap.size + 1 + 1) 36 #[.slice (some ⟨g, 0, none⟩) 4 d, .int .i64 0] := kr4.set_ 0 _
  have ko4_1 := ko4.far (p := ⟨w.heap.size + 1 + 1, 0, none⟩) (by show o ≠ w.heap.size + 1 + 1; omega) (.slice (some ⟨g, 0, none⟩) 4 d)
  have rr4_1 := kr4_1.rule
  have fr4_1 := fun i => kr4_1.frozen i
  have ro4_1 := ko4_1.rule
  have fo4_1 := fun i => ko4_1.frozen i
  have kr4_2 : Blk (((w3.setCell ⟨g, y, none⟩ (.int .i64 was)).setCell ⟨w.heap.size + 1 + 1, 0, none⟩ (.slice (some ⟨g, 0, none⟩) 4 d)).setCell ⟨w.heap.size + 1 + 1, 1, none⟩ (.int .i64 (m - 1))) (w.heap.size + 1 + 1) 36 #[.slice (some ⟨g, 0, none⟩) 4 d, .int .i64 (m - 1)] := kr4_1.set_ 1 _
  have ko4_2 := ko4_1.far (p := ⟨w.heap.size + 1 + 1, 1, none⟩) (by show o ≠ w.heap.size + 1 + 1; omega) (.int .i64 (m - 1))
  have rr4_2 := kr4_2.rule
  have fr4_2 := fun i => kr4_2.frozen i
  have ro4_2 := ko4_2.rule
  have fo4_2 := fun i => ko4_2.frozen i
  go_wp2
  refine bodyPost_ret (v := .tuple #[.agg #[.slice (some ⟨g, 0, none⟩) 4 d, .int .i64 (m - 1)], .bool true]) (by simp [results, Try.results58, go_sem, rr4_2]) rfl ⟨some ⟨g, 0, none⟩, d, by rw [List.length_set, HL.out], ?_, ?_⟩
  · exact OI.more (OI.set_ (OI.set_ ho4.out (by show w.heap.size + 1 + 1 < w2.heap.size; omega) _) (by show w.heap.size + 1 + 1 < w2.heap.size; omega) _) (by omega)
  · exact Below.setCell (Below.setCell (Below.setCell hB3 (by show w.heap.size ≤ g; omega) _) (by show w.heap.size ≤ w.heap.size + 1 + 1; omega) _) (by show w.heap.size ≤ w.heap.size + 1 + 1; omega) _
set_option maxHeartbeats 3200000 in
theorem implUndo_any (A : Option Addr) (c : Nat) (vs : List Int) (m k y n was : Int) (w : World) (hr : RdI w w.heap.size A vs) (hn : vs.length ≤ 1048576) :
    Calls Try.prog 59 #[.agg #[.slice A vs.length c, .int .i64 m], .agg #[.int .i64 k, .int .i64 y, .int .i64 n], .int .i64 was] w (SG (unU vs m k y n was) (unM vs m k y n was) (.bool (unQ vs m k y n was)) w) := by
  have ka := ((Blk.new w 36 #[.slice A vs.length c, .int .i64 m]).alloc (.cells #[.int .i64 k, .int .i64 y, .int .i64 n] 24)).alloc (.cells #[.slice none 0 0, .int .i64 0] 36)
  have kc := (Blk.new (w.alloc (.cells #[.slice A vs.length c, .int .i64 m] 36)) 24 #[.int .i64 k, .int .i64 y, .int .i64 n]).alloc (.cells #[.slice none 0 0, .int .i64 0] 36)
  have kr := Blk.new ((w.alloc (.cells #[.slice A vs.length c, .int .i64 m] 36)).alloc (.cells #[.int .i64 k, .int .i64 y, .int .i64 n] 24)) 36 #[.slice none 0 0, .int .i64 0]
  simp only [World.size_alloc] at kc kr
  have hB := up_ (up_ (up_ (Below.refl w.heap.size w) (.cells #[.slice A vs.length c, .int .i64 m] 36)) (.cells #[.int .i64 k, .int .i64 y, .int .i64 n] 24)) (.cells #[.slice none 0 0, .int .i64 0] 36)
  have hr1 := ((hr.up (.cells #[.slice A vs.length c, .int .i64 m] 36)).up (.cells #[.int .i64 k, .int .i64 y, .int .i64 n] 24)).up (.cells #[.slice none 0 0, .int .i64 0] 36)
  have HR := Lib.hid hr1
  clear hr1 hr
  rcases hq : stB vs m with _ | _
  · obtain ⟨e1, e2, e3⟩ := un_no (vs := vs) (m := m) (k := k) (y := y) (n := n) (was := was) (by simp [unQ, hq])
    rw [e1, e2, e3]
    have HQ := Lib.hid hq; clear hq e1 e2 e3
    go_enter Try.func59, Try.ntmps59
    go_wp2_with fail
    with_reducible refine (implStoreOk_is false A c vs m HQ.out _ HR.out hn).mono ?_
    rintro e w1 ⟨rfl, hb⟩
    have ka1 := ka.on hb
    have kc1 := kc.on hb
    have kr1 := kr.on hb
    have hB1 := on_ hB hb
    have hr1 := Lib.hid (HR.out.on hb)
    clear hb ka kc kr hB HR
    have rr1_0 := kr1.rule
    have fr1_0 := fun i => kr1.frozen i
    have kr1_1 : Blk (w1.setCell ⟨w.heap.size + 1 + 1, 0, none⟩ (.slice none 0 0)) (w.heap.size + 1 + 1) 36 #[.slice none 0 0, .int .i64 0] := kr1.set_ 0 _
    have rr1_1 := kr1_1.rule
    have fr1_1 := fun i => kr1_1.frozen i
    have kr1_2 : Blk ((w1.setCell ⟨w.heap.size + 1 + 1, 0, none⟩ (.slice none 0 0)).setCell ⟨w.heap.size + 1 + 1, 1, none⟩ (.int .i64 0)) (w.heap.size + 1 + 1) 36 #[.slice none 0 0, .int .i64 0] := kr1_1.set_ 1 _
    have rr1_2 := kr1_2.rule
    have fr1_2 := fun i => kr1_2.frozen i
    go_wp2
    refine bodyPost_ret (v := .tuple #[.agg #[.slice none 0 0, .int .i64 0], .bool false]) (by simp [results, Try.results59, go_sem, rr1_2]) rfl (sg_none ?_)
    iterate 2 refine Below.setCell ?_ (by simp <;> omega) _
    exact hB1
  rcases hp : cmdB k y n with _ | _
  · obtain ⟨e1, e2, e3⟩ := un_no (vs := vs) (m := m) (k := k) (y := y) (n := n) (was := was) (by simp [unQ, hp])
    rw [e1, e2, e3]
    have HQ := Lib.hid hq; have HP := Lib.hid hp; clear hq hp e1 e2 e3
    go_enter Try.func59, Try.ntmps59
    go_wp2_with fail
    with_reducible refine (implStoreOk_is true A c vs m HQ.out _ HR.out hn).mono ?_
    rintro e w1 ⟨rfl, hb⟩
    have ka1 := ka.on hb
    have kc1 := kc.on hb
    have kr1 := kr.on hb
    have hB1 := on_ hB hb
    have hr1 := Lib.hid (HR.out.on hb)
    clear hb ka kc kr hB HR
    have ra1 := ka1.rule
    have rc1 := kc1.rule
    go_wp2_with fail
    with_reducible refine (implCmdOk_is false k y n HP.out _).mono ?_
    rintro e w2 ⟨rfl, hb⟩
    have ka2 := ka1.on hb
    have kc2 := kc1.on hb
    have kr2 := kr1.on hb
    have hB2 := on_ hB1 hb
    have hr2 := Lib.hid (hr1.out.on hb)
    clear ra1 rc1 hb ka1 kc1 kr1 hB1 hr1
    have rr2_0 := kr2.rule
    have fr2_0 := fun i => kr2.frozen i
    have kr2_1 : Blk (w2.setCell ⟨w.heap.size + 1 + 1, 0, none⟩ (.slice none 0 0)) (w.heap.size + 1 + 1) 36 #[.slice none 0 0, .int .i64 0] := kr2.set_ 0 _
    have rr2_1 := kr2_1.rule
    have fr2_1 := fun i => kr2_1.frozen i
    have kr2_2 : Blk ((w2.setCell ⟨w.heap.size + 1 + 1, 0, none⟩ (.slice none 0 0)).setCell ⟨w.heap.size + 1 + 1, 1, none⟩ (.int .i64 0)) (w.heap.size + 1 + 1) 36 #[.slice none 0 0, .int .i64 0] := kr2_1.set_ 1 _
    have rr2_2 := kr2_2.rule
    have fr2_2 := fun i => kr2_2.frozen i
    go_wp2
    refine bodyPost_ret (v := .tuple #[.agg #[.slice none 0 0, .int .i64 0], .bool false]) (by simp [results, Try.results59, go_sem, rr2_2]) rfl (sg_none ?_)
    iterate 2 refine Below.setCell ?_ (by simp <;> omega) _
    exact hB2
  obtain ⟨hm0, hm1⟩ : 0 ≤ m ∧ m ≤ 1000 := ⟨(stB_yes hq).2.1, (stB_yes hq).2.2.1⟩
  by_cases hz : m = 0
  · subst hz
    obtain ⟨e1, e2, e3⟩ := un_no (vs := vs) (m := 0) (k := k) (y := y) (n := n) (was := was) (by simp [unQ])
    rw [e1, e2, e3]
    have HQ := Lib.hid hq; have HP := Lib.hid hp; clear hq hp e1 e2 e3
    go_enter Try.func59, Try.ntmps59
    go_wp2_with fail
    with_reducible refine (implStoreOk_is true A c vs 0 HQ.out _ HR.out hn).mono ?_
    rintro e w1 ⟨rfl, hb⟩
    have ka1 := ka.on hb
    have kc1 := kc.on hb
    have kr1 := kr.on hb
    have hB1 := on_ hB hb
    have hr1 := Lib.hid (HR.out.on hb)
    clear hb ka kc kr hB HR
    have ra1 := ka1.rule
    have rc1 := kc1.rule
    go_wp2_with fail
    with_reducible refine (implCmdOk_is true k y n HP.out _).mono ?_
    rintro e w2 ⟨rfl, hb⟩
    have ka2 := ka1.on hb
    have kc2 := kc1.on hb
    have kr2 := kr1.on hb
    have hB2 := on_ hB1 hb
    have hr2 := Lib.hid (hr1.out.on hb)
    clear ra1 rc1 hb ka1 kc1 kr1 hB1 hr1
    have ra2 := ka2.rule
    have rr2_0 := kr2.rule
    have fr2_0 := fun i => kr2.frozen i
    have kr2_1 : Blk (w2.setCell ⟨w.heap.size + 1 + 1, 0, none⟩ (.slice none 0 0)) (w.heap.size + 1 + 1) 36 #[.slice none 0 0, .int .i64 0] := kr2.set_ 0 _
    have rr2_1 := kr2_1.rule
    have fr2_1 := fun i => kr2_1.frozen i
    have kr2_2 : Blk ((w2.setCell ⟨w.heap.size + 1 + 1, 0, none⟩ (.slice none 0 0)).setCell ⟨w.heap.size + 1 + 1, 1, none⟩ (.int .i64 0)) (w.heap.size + 1 + 1) 36 #[.slice none 0 0, .int .i64 0] := kr2_1.set_ 1 _
    have rr2_2 := kr2_2.rule
    have fr2_2 := fun i => kr2_2.frozen i
    go_wp2
    refine bodyPost_ret (v := .tuple #[.agg #[.slice none 0 0, .int .i64 0], .bool false]) (by simp [results, Try.results59, go_sem, rr2_2]) rfl (sg_none ?_)
    iterate 2 refine Below.setCell ?_ (by simp <;> omega) _
    exact hB2
  have hz0 : 1 ≤ m := by omega
  have hz' : (m == 0) = false := by simpa using hz
  clear hz
  rcases hw : inB was with _ | _
  · have HW := Lib.hid hw
    obtain ⟨e1, e2, e3⟩ := un_no (vs := vs) (m := m) (k := k) (y := y) (n := n) (was := was) (by simp [unQ, hw])
    rw [e1, e2, e3]
    have HQ := Lib.hid hq; have HP := Lib.hid hp; clear hq hp e1 e2 e3
    clear hw
    go_enter Try.func59, Try.ntmps59
    go_wp2_with fail
    with_reducible refine (implStoreOk_is true A c vs m HQ.out _ HR.out hn).mono ?_
    rintro e w1 ⟨rfl, hb⟩
    have ka1 := ka.on hb
    have kc1 := kc.on hb
    have kr1 := kr.on hb
    have hB1 := on_ hB hb
    have hr1 := Lib.hid (HR.out.on hb)
    clear hb ka kc kr hB HR
    have ra1 := ka1.rule
    have rc1 := kc1.rule
    go_wp2_with fail
    with_reducible refine (implCmdOk_is true k y n HP.out _).mono ?_
    rintro e w2 ⟨rfl, hb⟩
    have ka2 := ka1.on hb
    have kc2 := kc1.on hb
    have kr2 := kr1.on hb
    have hB2 := on_ hB1 hb
    have hr2 := Lib.hid (hr1.out.on hb)
    clear ra1 rc1 hb ka1 kc1 kr1 hB1 hr1
    have ra2 := ka2.rule
    go_wp2_with fail
    with_reducible refine (stored_is false was HW.out _).mono ?_
    rintro e w9 ⟨rfl, h9⟩; obtain rfl := h9.symm
    have rr2_0 := kr2.rule
    have fr2_0 := fun i => kr2.frozen i
    have kr2_1 : Blk (w2.setCell ⟨w.heap.size + 1 + 1, 0, none⟩ (.slice none 0 0)) (w.heap.size + 1 + 1) 36 #[.slice none 0 0, .int .i64 0] := kr2.set_ 0 _
    have rr2_1 := kr2_1.rule
    have fr2_1 := fun i => kr2_1.frozen i
    have kr2_2 : Blk ((w2.setCell ⟨w.heap.size + 1 + 1, 0, none⟩ (.slice none 0 0)).setCell ⟨w.heap.size + 1 + 1, 1, none⟩ (.int .i64 0)) (w.heap.size + 1 + 1) 36 #[.slice none 0 0, .int .i64 0] := kr2_1.set_ 1 _
    have rr2_2 := kr2_2.rule
    have fr2_2 := fun i => kr2_2.frozen i
    go_wp2
    refine bodyPost_ret (v := .tuple #[.agg #[.slice none 0 0, .int .i64 0], .bool false]) (by simp [results, Try.results59, go_sem, rr2_2]) rfl (sg_none ?_)
    iterate 2 refine Below.setCell ?_ (by simp <;> omega) _
    exact hB2
  obtain ⟨l4, _, _, hall⟩ := stB_yes hq
  obtain ⟨hk0, hk1, hy0, hy1, hn0, hn1, _⟩ := cmdB_yes hp
  obtain ⟨y, rfl⟩ : ∃ z : Nat, y = z := ⟨y.toNat, by omega⟩
  obtain ⟨hw0, hw1⟩ := inB_yes hw
  have hzm : m ≠ 0 := by omega
  obtain ⟨e1, e2, e3⟩ := un_yes (vs := vs) (m := m) (k := k) (y := y) (n := n) (was := was) (by simp [unQ, hp, hq, hw, hzm])
  rw [e1, e2, e3]
  have HQ := Lib.hid hq; have HP := Lib.hid hp; have HW := Lib.hid hw; have HL := Lib.hid l4; clear hq hp e1 e2 e3 hw l4 hall hzm
  have g0 : (0 : Int) ≤ (y : Int) := by omega
  have g1 : (y : Int) < 4 := by omega
  go_enter Try.func59, Try.ntmps59
  go_wp2_with fail
  with_reducible refine (implStoreOk_is true A c vs m HQ.out _ HR.out hn).mono ?_
  rintro e w1 ⟨rfl, hb⟩
  have ka1 := ka.on hb
  have kc1 := kc.on hb
  have kr1 := kr.on hb
  have hB1 := on_ hB hb
  have hr1 := Lib.hid (HR.out.on hb)
  clear hb ka kc kr hB HR
  have ra1 := ka1.rule
  have rc1 := kc1.rule
  go_wp2_with fail
  with_reducible refine (implCmdOk_is true k y n HP.out _).mono ?_
  rintro e w2 ⟨rfl, hb⟩
  have ka2 := ka1.on hb
  have kc2 := kc1.on hb
  have kr2 := kr1.on hb
  have hB2 := on_ hB1 hb
  have hr2 := Lib.hid (hr1.out.on hb)
  clear ra1 rc1 hb ka1 kc1 kr1 hB1 hr1
  have ra2 := ka2.rule
  go_wp2_with fail
  with_reducible refine (stored_is true was HW.out _).mono ?_
  rintro e w9 ⟨rfl, h9⟩; obtain rfl := h9.symm
  go_wp2_with fail
  with_reducible refine (copied_any A c vs m w2 hr2.out hn).mono ?_
  rintro e w3 ⟨B, d, rfl, hd, ho, hb⟩
  have kc3 := kc2.on hb
  have kr3 := kr2.on hb
  have hB3 := on_ hB2 hb
  have hrl := kr2.lt
  have hz3 := hb.size
  obtain ⟨g, cs, rfl, hgb, hk, hpi⟩ := ho.row7 (by rw [HL.out]; omega)
  have hgl := hk.lt
  have hcg := hpi.2 y (by rw [HL.out]; omega)
  rw [HL.out] at hd
  have HDL : Hid (([] : List Int).length = 0) := rfl
  clear hb ra2 ka2 kc2 kr2 hB2 hr2 hpi
  have kx4 : Blk (w3.alloc (.cells #[.slice (some ⟨g, 0, none⟩) 4 d, .int .i64 m] 36)) w3.heap.size 36 #[.slice (some ⟨g, 0, none⟩) 4 d, .int .i64 m] := Blk.new _ _ _
  have kc4 := kc3.alloc (.cells #[.slice (some ⟨g, 0, none⟩) 4 d, .int .i64 m] 36)
  have kr4 := kr3.alloc (.cells #[.slice (some ⟨g, 0, none⟩) 4 d, .int .i64 m] 36)
  have hk4 := hk.alloc (.cells #[.slice (some ⟨g, 0, none⟩) 4 d, .int .i64 m] 36)
  have hB4 := up_ hB3 (.cells #[.slice (some ⟨g, 0, none⟩) 4 d, .int .i64 m] 36)
  have ho4 := Lib.hid (ho.up (.cells #[.slice (some ⟨g, 0, none⟩) 4 d, .int .i64 m] 36))
  have rc4 := kc4.rule
  have rx4 := kx4.rule
  have rg4 := (hk4.cell y).trans hcg
  have fg4 := hk4.frozen y
  have hz3' : w.heap.size + 2 < w3.heap.size := by omega
  rw [HL.out]
  go_upto_region 4 with (fail)
  generalize w3.alloc (.cells #[.slice (some ⟨g, 0, none⟩) 4 d, .int .i64 m] 36) = w4 at *
  have kx5a := kx4.far (p := ⟨g, y, none⟩) (by show w3.heap.size ≠ g; omega) (.int .i64 was)
  have kr5a := kr4.far (p := ⟨g, y, none⟩) (by show w.heap.size + 1 + 1 ≠ g; omega) (.int .i64 was)
  have hbz : w.heap.size ≤ w2.heap.size := by omega
  have ho5 := Lib.hid (OI.set7 (y := y) (v := was) ho4.out (by rw [HL.out]; omega))
  have kx5 := kx5a
  have kr5 := kr5a
  clear kx5a kr5a
  have rx5_0 := kx5.rule
  have fx5_0 := fun i => kx5.frozen i
  have rr5_0 := kr5.rule
  have fr5_0 := fun i => kr5.frozen i
  have kx5_1 : Blk ((w4.setCell ⟨g, y, none⟩ (.int .i64 was)).setCell ⟨w3.heap.size, 1, none⟩ (.int .i64 (m - 1))) (w3.heap.size) 36 #[.slice (some ⟨g, 0, none⟩) 4 d, .int .i64 (m - 1)] := kx5.set_ 1 _
  have kr5_1 := kr5.far (p := ⟨w3.heap.size, 1, none⟩) (by show w.heap.size + 1 + 1 ≠ w3.heap.size; omega) (.int .i64 (m - 1))
  have rx5_1 := kx5_1.rule
  have fx5_1 := fun i => kx5_1.frozen i
  have rr5_1 := kr5_1.rule
  have fr5_1 := fun i => kr5_1.frozen i
  have kx5_2 := kx5_1.far (p := ⟨w.heap.size + 1 + 1, 0, none⟩) (by show w3.heap.size ≠ w.heap.size + 1 + 1; omega) (.slice (some ⟨g, 0, none⟩) 4 d)
  have kr5_2 : Blk (((w4.setCell ⟨g, y, none⟩ (.int .i64 was)).setCell ⟨w3.heap.size, 1, none⟩ (.int .i64 (m - 1))).setCell ⟨w.heap.size + 1 + 1, 0, none⟩ (.slice (some ⟨g, 0, none⟩) 4 d)) (w.heap.size + 1 + 1) 36 #[.slice (some ⟨g, 0, none⟩) 4 d, .int .i64 0] := kr5_1.set_ 0 _
  have rx5_2 := kx5_2.rule
  have fx5_2 := fun i => kx5_2.frozen i
  have rr5_2 := kr5_2.rule
  have fr5_2 := fun i => kr5_2.frozen i
  have kx5_3 := kx5_2.far (p := ⟨w.heap.size + 1 + 1, 1, none⟩) (by show w3.heap.size ≠ w.heap.size + 1 + 1; omega) (.int .i64 (m - 1))
  have kr5_3 : Blk ((((w4.setCell ⟨g, y, none⟩ (.int .i64 was)).setCell ⟨w3.heap.size, 1, none⟩ (.int .i64 (m - 1))).setCell ⟨w.heap.size + 1 + 1, 0, none⟩ (.slice (some ⟨g, 0, none⟩) 4 d)).setCell ⟨w.heap.size + 1 + 1, 1, none⟩ (.int .i64 (m - 1))) (w.heap.size + 1 + 1) 36 #[.slice (some ⟨g, 0, none⟩) 4 d, .int .i64 (m - 1)] := kr5_2.set_ 1 _
  have rx5_3 := kx5_3.rule
  have fx5_3 := fun i => kx5_3.frozen i
  have rr5_3 := kr5_3.rule
  have fr5_3 := fun i => kr5_3.frozen i
  go_wp2
  refine bodyPost_ret (v := .tuple #[.agg #[.slice (some ⟨g, 0, none⟩) 4 d, .int .i64 (m - 1)], .bool true]) (by simp [results, Try.results59, go_sem, rr5_3]) rfl ⟨some ⟨g, 0, none⟩, d, by rw [List.length_set, HL.out], ?_, ?_⟩
  · exact OI.more (OI.set_ (OI.set_ (far7 ho5.out (by show g ≠ w3.heap.size; omega) _) (by show w.heap.size + 1 + 1 < w2.heap.size; omega) _) (by show w.heap.size + 1 + 1 < w2.heap.size; omega) _) hbz
  · exact Below.setCell (Below.setCell (Below.setCell (Below.setCell hB4 (by show w.heap.size ≤ g; omega) _) (by show w.heap.size ≤ w3.heap.size; omega) _) (by show w.heap.size ≤ w.heap.size + 1 + 1; omega) _) (by show w.heap.size ≤ w.heap.size + 1 + 1; omega) _
end Go.Proofs.Ytfebeafonifpdaa.V
