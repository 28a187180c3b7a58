/-
  Proved here: for whatever bytes of a draw, the law FnJoineds (joined, the first one stays; all of both is told; joined with itself nothing turns) answers true. No condition.
-/
import Derived.Test.YtaegcdbgnjlbdaaRows
import Derived.Test.YtaegcdbgnjlbdaaDoor
import Derived.Test.YtaegcdbgnjlbdaaDraw6
import Derived.Test.YtaegcdbgnjlbdaaTallies
import Derived.Test.YtaegcdbgnjlbdaaImplLook
import Derived.Test.YtaegcdbgnjlbdaaImplAdd
import Derived.Test.YtaegcdbgnjlbdaaImplTallyOk
import Derived.Test.YtaegcdbgnjlbdaaJoinMath
import Derived.Test.YtaegcdbgnjlbdaaLift
set_option linter.unusedVariables false
set_option maxRecDepth 100000
namespace Go.Proofs.Ytaegcdbgnjlbdaa.fnJoineds
open Go.RowKit Go.ChangeShapes Go.WideShapes Go.Proofs.Ytaegcdbgnjlbdaa.B Go.Proofs.Ytaegcdbgnjlbdaa.V

theorem ok_at {vs : List B3} (hq : tallyOkB vs = true) {k : Nat} (hk : k < vs.length) : vs.getD k z3 ∈ vs ∧ 0 ≤ (vs.getD k z3).1 ∧ (vs.getD k z3).1 ≤ 6 ∧ 0 ≤ (vs.getD k z3).2.1 ∧ (vs.getD k z3).2.1 ≤ 9 := by
  have hm : vs.getD k z3 ∈ vs := by rw [getD_eq hk]; exact List.getElem_mem hk
  have h := mem_ok hq hm
  unfold b3Ok viewB at h
  simp only [Bool.and_eq_true, decide_eq_true_eq] at h
  exact ⟨hm, h.1.1.1, by omega, h.1.2.1, by have := h.1.2.2; omega⟩
structure JSt (w w1 : World) (m : Nat) (B : Option Addr) (d : Nat) (B2 : Option Addr) (d2 : Nat) (us xs : List B3) (v : Value) (wx : World) : Prop where
  k0 : Blk wx w.heap.size 44 #[.slice B m d]
  k1 : Blk wx (w.heap.size + 1) 44 #[v]
  o0 : OT wx 61 w1.heap.size B us
  o1 : OT wx 61 w1.heap.size B2 xs
  be : Below w.heap.size w wx
  lt : w.heap.size + 1 < w1.heap.size
theorem JSt.first {w W0 w1 wx : World} {m d d2 b0 : Nat} {B B2 : Option Addr} {us xs : List B3} (_h : us.length = m) (hB0 : Below w.heap.size w W0) (hlt : w.heap.size + 1 < w1.heap.size ∧ w1.heap.size ≤ b0)
    (k0 : Blk wx w.heap.size 44 #[.slice none 0 0]) (k1 : Blk wx (w.heap.size + 1) 44 #[.slice none 0 0]) (hb : Below W0.heap.size W0 wx) (o0 : OT wx 61 b0 B us) (o1 : OT wx 61 w1.heap.size B2 xs) :
    JSt w w1 m B d B2 d2 us xs (.slice none 0 0) (wx.setCell ⟨w.heap.size, 0, none⟩ (.slice B m d)) :=
  ⟨k0.set_ 0 _, k1.far (by show w.heap.size + 1 ≠ w.heap.size; omega) _, (o0.more hlt.2).set_ (by show w.heap.size < _; omega) _, o1.set_ (by show w.heap.size < _; omega) _, Below.setCell (hB0.trans (hb.mono hB0.size)) (Nat.le_refl _) _, hlt.1⟩
theorem JSt.second {w w1 wx : World} {m d d2 : Nat} {B B2 : Option Addr} {us xs : List B3} {v : Value} (h : JSt w w1 m B d B2 d2 us xs v wx) :
    JSt w w1 m B d B2 d2 us xs (.slice B2 xs.length d2) (wx.setCell ⟨w.heap.size + 1, 0, none⟩ (.slice B2 xs.length d2)) :=
  ⟨h.k0.far (by show w.heap.size ≠ w.heap.size + 1; omega) _, h.k1.set_ 0 _, h.o0.set_ h.lt _, h.o1.set_ h.lt _, Below.setCell h.be (by show w.heap.size ≤ w.heap.size + 1; omega) _, h.lt⟩
set_option maxHeartbeats 1600000 in
theorem drawJoined_any (A : Option Addr) (n c : Nat) (hm : n ≤ maxLen) (w : World) (hr : RdC w w.heap.size A n) : Calls Try.prog 27 #[.slice A n c] w fun e w' => ∃ B d us B2 d2 xs, e = .returned (.tuple #[.agg #[.slice B us.length d], .agg #[.slice B2 xs.length d2]]) ∧ us.length ≤ 15 ∧ xs.length ≤ 15 ∧ Rd3 w' w'.heap.size B us ∧ Rd3 w' w'.heap.size B2 xs ∧ Below w.heap.size w w' := by
  obtain ⟨W0, hW0⟩ : ∃ W0, (w.alloc (.cells #[.slice none 0 0] 44)).alloc (.cells #[.slice none 0 0] 44) = W0 := ⟨_, rfl⟩
  have hB0 : Below w.heap.size w W0 := by rw [← hW0]; exact up_ (up_ (Below.refl _ _) _) _
  have k0 : Blk W0 w.heap.size 44 #[.slice none 0 0] := by rw [← hW0]; exact (Blk.new w _ _).alloc _
  have k1 : Blk W0 (w.heap.size + 1) 44 #[.slice none 0 0] := by
    rw [← hW0]
    have := Blk.new (w.alloc (.cells #[.slice none 0 0] 44)) 44 #[.slice none 0 0]
    simpa using this
  have hs0 : W0.heap.size = w.heap.size + 2 := by rw [← hW0]; simp
  have hr0 := RdC.more (RdC.below hr hB0) hB0.size
  have HW0 := Lib.hid hW0; clear hW0
  have HS0 := Lib.hid hs0; clear hs0
  go_enter Try.func27, Try.ntmps27
  go_wp2_with fail
  rw [HW0.out]
  refine (new_any A n c hm _ hr0).mono ?_
  rintro e w1 ⟨p, rfl, hc, hb1⟩
  clear hr0
  go_wp2_with fail
  refine (l2bent_any _ p w1 hc).mono ?_
  rintro e w2 ⟨B, d, us', rfl, hul, hcap, ho2, hc2, hg2⟩
  have hp1 := (cur_lt hc).1
  have hb2 := below_cur hb1 (cur_lt hc).2 hg2
  have hb2' := up_ hb2 (.cells #[.slice B us'.length d] 44)
  have hc3 := cur_next hc2 (up_ (Below.refl w2.heap.size w2) (.cells #[.slice B us'.length d] 44))
  have ho3 := ho2.up (.cells #[.slice B us'.length d] 44)
  have kA := Blk.new w2 44 #[.slice B us'.length d]
  have hs3 : (w2.alloc (.cells #[.slice B us'.length d] 44)).heap.size = w2.heap.size + 1 := by simp
  obtain ⟨m, hmv⟩ : ∃ m, us'.length = m := ⟨_, rfl⟩
  rw [hmv] at hb2' hc3 ho3 kA hs3 hul ⊢
  have HM := Lib.hid hmv
  clear hmv
  go_wp2_with fail
  have hp2 : p < w2.heap.size := (cur_lt hc2).1
  have hs13 : w1.heap.size ≤ w2.heap.size := hg2.size
  have hsz1 := hb1.size
  have hp1 : p < w1.heap.size := (cur_lt hc).1
  generalize hW3 : w2.alloc (.cells #[.slice B m d] 44) = W3 at *
  clear hW3 hr hc hc2 hg2 hb1 hb2 ho2 hcap
  have HB2 := Lib.hid hb2'
  have HO3 := Lib.hid ho3
  clear hb2' ho3
  refine wp_region_hold (fun vs => { tmps := #[.slice A n c, undef, .pointer (some ⟨w.heap.size, 0, none⟩), .pointer (some ⟨w.heap.size + 1, 0, none⟩), .pointer (some ⟨p, 0, none⟩), .pointer (some ⟨w2.heap.size, 0, none⟩), .slice A n c, .pointer (some ⟨p, 0, none⟩), .pointer (some ⟨p, 0, none⟩), .agg #[.slice B m d], vs 0, vs 1, vs 2], defers := [] }) (fun L us wx => (L 0 → us 0 = .agg #[.slice B m d]) ∧ (L 1 → us 1 = .pointer (some ⟨p, 0, none⟩)) ∧ (¬ L 3 → Blk wx w2.heap.size 44 #[.slice B m d] ∧ Cur W0.heap.size wx p ∧ W3.grownBy wx (some p) ∧ (L 2 → ∃ B2 d2 xs, us 2 = .agg #[.slice B2 xs.length d2] ∧ xs.length ≤ 15 ∧ OT wx 61 w1.heap.size B2 xs)) ∧ (L 3 → ¬ L 4 → ∃ B2 d2 xs, us 2 = .agg #[.slice B2 xs.length d2] ∧ xs.length ≤ 15 ∧ JSt w w1 m B d B2 d2 us' xs (.slice none 0 0) wx) ∧ (L 4 → ∃ B2 d2 xs, xs.length ≤ 15 ∧ JSt w w1 m B d B2 d2 us' xs (.slice B2 xs.length d2) wx)) (fun _ => undef) (by kernel_rfl) (by kernel_rfl) rfl ?_ ?_ ?_ ?_
  · repeat (refine Each.cons (fun us v => rfl) ?_)
    exact Each.nil
  · have hbd : Below W3.heap.size W3 W3.drew := ⟨rfl, rfl, rfl, Nat.le_refl _, fun _ _ => rfl⟩
    exact ⟨fun h => h.elim, fun h => h.elim, fun _ => ⟨kA.on hbd, cur_next hc3 hbd, ⟨rfl, rfl, rfl, Nat.le_refl _, fun _ _ _ => rfl⟩, fun h => h.elim⟩, fun h => h.elim, fun h => h.elim⟩
  · refine Each.cons ?_ (Each.cons ?_ (Each.cons ?_ (Each.cons ?_ (Each.cons ?_ Each.nil))))
    · intro L vs wx hnL hdep hsh hI K hK
      have n3 : ¬ L 3 := fun h => hnL (hsh.far 12 3 0 (by decide) h)
      have n4 : ¬ L 4 := fun h => n3 (hsh.far 12 4 3 (by decide) h)
      obtain ⟨i0, i1, iw, -, -⟩ := hI
      obtain ⟨ik, ic, ig, i2⟩ := iw n3
      have rk := ik.rule
      go_simp
      refine hK _ _ (.agg #[.slice B m d]) rfl ⟨fun _ => upd_same _ _ _, fun h => ?_, fun _ => ⟨ik, ic, ig, fun h => ?_⟩, fun h => ?_, fun h => ?_⟩
      · rw [upd_ne (by omega)]; exact i1 (h.resolve_left (by omega))
      · rw [upd_ne (by omega)]; exact i2 (h.resolve_left (by omega))
      · exact absurd (h.resolve_left (by omega)) n3
      · exact absurd (h.resolve_left (by omega)) n4
    · intro L vs wx hnL hdep hsh hI K hK
      have n3 : ¬ L 3 := fun h => hnL (hsh.far 12 3 1 (by decide) h)
      have n4 : ¬ L 4 := fun h => n3 (hsh.far 12 4 3 (by decide) h)
      obtain ⟨i0, i1, iw, -, -⟩ := hI
      obtain ⟨ik, ic, ig, i2⟩ := iw n3
      go_simp
      refine hK _ _ (.pointer (some ⟨p, 0, none⟩)) rfl ⟨fun h => ?_, fun _ => upd_same _ _ _, fun _ => ⟨ik, ic, ig, fun h => ?_⟩, fun h => ?_, fun h => ?_⟩
      · rw [upd_ne (by omega)]; exact i0 (h.resolve_left (by omega))
      · rw [upd_ne (by omega)]; exact i2 (h.resolve_left (by omega))
      · exact absurd (h.resolve_left (by omega)) n3
      · exact absurd (h.resolve_left (by omega)) n4
    · intro L vs wx hnL hdep hsh hI K hK
      have n3 : ¬ L 3 := fun h => hnL (hsh.far 12 3 2 (by decide) h)
      have n4 : ¬ L 4 := fun h => n3 (hsh.far 12 4 3 (by decide) h)
      obtain ⟨i0, i1, iw, -, -⟩ := hI
      obtain ⟨ik, ic, ig, i2⟩ := iw n3
      have q1 := i1 (hdep 1 (by decide))
      go_simp
      go_at_call 45
      refine (l2bent_any _ p wx ic).mono ?_
      rintro e w5 ⟨B2, d2, xs, rfl, hxl, hcap2, ho5, hc5, hg5⟩
      refine hK _ _ (.agg #[.slice B2 xs.length d2]) (by dsimp only; rw [q1]; rfl) ⟨fun h => ?_, fun h => ?_, fun _ => ⟨keepK ik hg5 (fun e => by injection e with e; omega), hc5, ig.andThen hg5 (fun j hj => .inr hj), fun _ => ⟨B2, d2, xs, upd_same _ _ _, hxl, ho5.more (by have := ig.size; omega)⟩⟩, fun h => ?_, fun h => ?_⟩
      · rw [upd_ne (by omega)]; exact i0 (h.resolve_left (by omega))
      · rw [upd_ne (by omega)]; exact i1 (h.resolve_left (by omega))
      · exact absurd (h.resolve_left (by omega)) n3
      · exact absurd (h.resolve_left (by omega)) n4
    · intro L vs wx hnL hdep hsh hI K hK
      have n4 : ¬ L 4 := fun h => hnL (hsh.far 12 4 3 (by decide) h)
      obtain ⟨i0, i1, iw, -, -⟩ := hI
      obtain ⟨ik, ic, ig, i2⟩ := iw hnL
      obtain ⟨B2, d2, xs, q2, hxl, ho5⟩ := i2 (hdep 2 (by decide))
      have q0 := i0 (hdep 0 (by decide))
      have hB5 := below_cur HB2.out (cur_lt hc3).2 ig
      have k05 := k0.below hB5 (by have := HS0.out; omega)
      have k15 := k1.below hB5 (by have := HS0.out; omega)
      have hJ := JSt.first (m := m) (d := d) (d2 := d2) HM.out hB0 (by have := HS0.out; omega) k05 k15 hB5 (HO3.out.keep ig (fun g hg e => by injection e with e; have := HO3.out.ge g hg; omega)) ho5
      have r05 := k05.rule
      have f05 := fun i => k05.frozen i
      go_simp
      refine hK _ _ undef (by dsimp only; rw [q0, q2]; rfl) ⟨fun h => ?_, fun h => ?_, fun h => absurd (.inl rfl) h, fun _ _ => ⟨B2, d2, xs, ?_, hxl, hJ⟩, fun h => ?_⟩
      · rw [upd_ne (by omega)]; exact i0 (h.resolve_left (by omega))
      · rw [upd_ne (by omega)]; exact i1 (h.resolve_left (by omega))
      · rw [upd_ne (by omega)]; exact q2
      · exact absurd (h.resolve_left (by omega)) n4
    · intro L vs wx hnL hdep hsh hI K hK
      obtain ⟨i0, i1, -, i3, -⟩ := hI
      obtain ⟨B2, d2, xs, q2, hxl, hJ⟩ := i3 (hdep 3 (by decide)) hnL
      have r15 := hJ.k1.rule
      have f15 := fun i => hJ.k1.frozen i
      have hJ2 := hJ.second
      go_simp
      refine hK _ _ undef (by dsimp only; rw [q2]; rfl) ⟨fun h => ?_, fun h => ?_, fun h => absurd (.inr (hdep 3 (by decide))) h, fun _ h => absurd (.inl rfl) h, fun _ => ⟨B2, d2, xs, hxl, hJ2⟩⟩
      · rw [upd_ne (by omega)]; exact i0 (h.resolve_left (by omega))
      · rw [upd_ne (by omega)]; exact i1 (h.resolve_left (by omega))
  · rintro L vs wx hL ⟨i0, i1, -, -, i4⟩
    obtain ⟨B2, d2, xs, hxl, hJ⟩ := i4 (hL 4 (by decide))
    have r0 := hJ.k0.rule
    have r1 := hJ.k1.rule
    have HJ := Lib.hid hJ
    have HX := Lib.hid hxl
    clear hJ hxl i4 i0 i1 hL kA hc3
    go_wp2
    refine bodyPost_ret (v := .tuple #[.agg #[.slice B m d], .agg #[.slice B2 xs.length d2]]) (by simp [results, Try.results27, go_sem, r0, r1]) rfl ?_
    --AAA
    exact ⟨B, d, us', B2, d2, xs, by rw [HM.out], by rw [HM.out]; exact hul, HX.out, HJ.out.o0.rd, HJ.out.o1.rd, HJ.out.be⟩
set_option maxHeartbeats 1600000 in
theorem walk (A : Option Addr) (n c : Nat) (hm : n ≤ maxLen) (w : World) (hr : RdC w w.heap.size A n) :
    Calls Try.prog 7 #[.slice A n c] w fun e w' => e = .returned (.bool true) ∧ Below w.heap.size w w' := by
  have HD := Lib.hid (drawJoined_any A n c hm w hr)
  clear hr
  go_enter Try.func7, Try.ntmps7
  go_wp2_with fail
  refine HD.out.mono ?_
  rintro e w0 ⟨B, d, vs, B2, d2, us, rfl, hvl, hul, hrv, hru, hB0⟩
  have hra := Lib.hid ((hrv.up (.cells #[.slice B vs.length d] 44)).up (.cells #[.slice B2 us.length d2] 44))
  have hrb := Lib.hid ((hru.up (.cells #[.slice B vs.length d] 44)).up (.cells #[.slice B2 us.length d2] 44))
  have hB1 := Lib.hid (up_ (up_ hB0 (.cells #[.slice B vs.length d] 44)) (.cells #[.slice B2 us.length d2] 44))
  have kta := Lib.hid ((Blk.new w0 44 #[.slice B vs.length d]).alloc (.cells #[.slice B2 us.length d2] 44))
  have ktb0 := Blk.new (w0.alloc (.cells #[.slice B vs.length d] 44)) 44 #[.slice B2 us.length d2]
  simp only [World.size_alloc] at ktb0
  have ktb := Lib.hid ktb0
  clear ktb0 hrv hru hB0 HD
  have HJ : Hid (∀ W, Rd3 W W.heap.size B vs → Rd3 W W.heap.size B2 us → Calls Try.prog 28 #[.agg #[.slice B vs.length d], .agg #[.slice B2 us.length d2]] W (TG (joinU vs us) (joinQ vs us) W)) := fun W h h2 => implJoined_any B B2 d d2 vs us W h h2 (by omega) (by omega)
  have hqn : joinQ vs us = false → joinU vs us = [] := fun h => by unfold joinU; rw [h]; rfl
  have hqy : joinQ vs us = true → _ := fun h => join_facts (vs := vs) (us := us) (by unfold joinQ at h; simp only [Bool.and_eq_true] at h; exact h.1) (by unfold joinQ at h; simp only [Bool.and_eq_true] at h; exact h.2)
  have hxl := joinU_small vs us
  have hqt : joinQ vs us = true → tallyOkB vs = true ∧ tallyOkB us = true := fun h => by unfold joinQ at h; simpa only [Bool.and_eq_true] using h
  obtain ⟨X, hX⟩ : ∃ X, joinU vs us = X := ⟨_, rfl⟩
  obtain ⟨q, hq⟩ : ∃ q, joinQ vs us = q := ⟨_, rfl⟩
  rw [hX, hq] at HJ hqn hqy
  rw [hq] at hqt
  have HQT := Lib.hid hqt
  rw [hX] at hxl
  have HQN := Lib.hid hqn
  have HQY := Lib.hid hqy
  obtain ⟨n1, hn1⟩ : ∃ m, vs.length = m := ⟨_, rfl⟩
  obtain ⟨m1, hm1⟩ : ∃ m, us.length = m := ⟨_, rfl⟩
  have HN1 := Lib.hid hn1
  have HM1 := Lib.hid hm1
  rw [hn1] at HJ hra hrb hB1 kta ktb hvl ⊢
  rw [hm1] at HJ hra hrb hB1 kta ktb hul ⊢
  clear hqn hqy hqt hX hq hn1 hm1
  go_wp2_with fail
  have hra := hra.out
  have hrb := hrb.out
  have hB1 := hB1.out
  have kta := kta.out
  have ktb := ktb.out
  generalize (w0.alloc (.cells #[.slice B n1 d] 44)).alloc (.cells #[.slice B2 m1 d2] 44) = w1 at *
  refine (HJ.out w1 hra hrb).mono ?_
  rintro e w2 ⟨B5, d5, rfl, ho2, hb2⟩
  have hra2 := hra.on hb2
  have hrb2 := hrb.on hb2
  have kta2 := kta.on hb2
  have ktb2 := ktb.on hb2
  have hB2 := on_ hB1 hb2
  have hrx2 := ho2.rd
  have hra3 := Lib.hid (hra2.up (.cells #[.slice B5 X.length d5] 44))
  have hrb3 := Lib.hid (hrb2.up (.cells #[.slice B5 X.length d5] 44))
  have hrx3 := Lib.hid (hrx2.up (.cells #[.slice B5 X.length d5] 44))
  have hB3 := Lib.hid (up_ hB2 (.cells #[.slice B5 X.length d5] 44))
  have kta3 := Lib.hid (kta2.alloc (.cells #[.slice B5 X.length d5] 44))
  have ktb3 := Lib.hid (ktb2.alloc (.cells #[.slice B5 X.length d5] 44))
  have ktx3 := Lib.hid (Blk.new w2 44 #[.slice B5 X.length d5])
  clear hra2 hrb2 kta2 ktb2 hB2 hrx2 ho2 hb2 hra hrb hB1 kta ktb HJ
  obtain ⟨N, hN⟩ : ∃ N, X.length = N := ⟨_, rfl⟩
  have HN := Lib.hid hN
  rw [hN] at hra3 hrb3 hrx3 hB3 kta3 ktb3 ktx3 hxl ⊢
  clear hN
  have rx := ktx3.out.rule
  rcases q with _ | _
  · have hX0 := HQN.out rfl
    have hN0 : N = 0 := by rw [← HN.out, hX0]; rfl
    subst hN0
    clear hX0 HQN HQY HQT
    --BBA
    go_wp2_with fail
    refine (tallies_any _).mono ?_
    rintro e wz ⟨rfl, hbz⟩
    have hBz := on_ hB3.out hbz
    go_wp2
    go_ret
    exact ⟨rfl, hBz⟩
  · obtain ⟨f1, f2, f3, f4, f5, f6⟩ := HQY.out rfl
    have F1 := Lib.hid f1
    have F2 := Lib.hid f2
    have F3 := Lib.hid f3
    have F4 := Lib.hid f4
    have F5 := Lib.hid f5
    have F6 := Lib.hid f6
    have HV1 : Hid (∀ k, k < n1 → vs.getD k z3 ∈ vs ∧ 0 ≤ (vs.getD k z3).1 ∧ (vs.getD k z3).1 ≤ 6 ∧ 0 ≤ (vs.getD k z3).2.1 ∧ (vs.getD k z3).2.1 ≤ 9) := fun k hk => ok_at (HQT.out rfl).1 (by rw [HN1.out]; exact hk)
    have HV2 : Hid (∀ k, k < m1 → us.getD k z3 ∈ us ∧ 0 ≤ (us.getD k z3).1 ∧ (us.getD k z3).1 ≤ 6 ∧ 0 ≤ (us.getD k z3).2.1 ∧ (us.getD k z3).2.1 ≤ 9) := fun k hk => ok_at (HQT.out rfl).2 (by rw [HM1.out]; exact hk)
    have HT : Hid (∀ (pv pf : Int) W, wfI pv → wfI pf → Rd3 W W.heap.size B5 X → Calls Try.prog 24 #[.agg #[.slice B5 N d5], .int .i64 pv, .int .i64 pf] W fun e w' => e = .returned (.tuple #[.int .i64 (toldR X pv pf), .bool (toldQ X pv pf)]) ∧ Below W.heap.size W w') := fun pv pf W h1 h2 h => by
      rw [← HN.out]
      exact implTold_any pv pf h1 h2 B5 d5 X W h (by rw [HN.out]; omega)
    clear f1 f2 f3 f4 f5 f6 HQN HQY HQT
    go_wp2
    clear rx
    generalize w2.alloc (.cells #[.slice B5 N d5] 44) = w3 at *
    go_loopw [7, 8, 9] (fun i v5 f5 wr => ∃ k : Nat, k ≤ n1 ∧ i = .int .i64 k ∧ Below w3.heap.size w3 wr) (fun i _ _ _ => n1 - (intOf i).toNat)
    case atStart => exact ⟨0, Nat.zero_le _, rfl, Below.refl _ _⟩
    case round =>
      obtain ⟨k, hkn, rfl, hbel⟩ := hrel
      have hra4 := Lib.hid (hra3.out.on hbel)
      have hrb4 := Lib.hid (hrb3.out.on hbel)
      have hrx4 := Lib.hid (hrx3.out.on hbel)
      have kta4 := Lib.hid (kta3.out.on hbel)
      have ktb4 := Lib.hid (ktb3.out.on hbel)
      have ktx4 := Lib.hid (ktx3.out.on hbel)
      have hB4 := Lib.hid (on_ hB3.out hbel)
      have HBE := Lib.hid hbel
      clear hbel
      have ra := kta4.out.rule
      by_cases hk : k < n1
      · have hkx : (k : Int) < (n1 : Int) := by omega
        obtain ⟨b, off, rfl, hb, hc0, hc1, hc2⟩ := Rd3.at_ hra4.out (k := k) (by rw [HN1.out]; omega)
        obtain ⟨hmem, hv0, hv1, hv2, hv3⟩ := HV1.out k hk
        have h3 := F3.out _ hmem
        obtain ⟨⟨va, vb, vc⟩, hu⟩ : ∃ u, vs.getD k z3 = u := ⟨_, rfl⟩
        rw [hu] at hc0 hc1 hc2 hv0 hv1 hv2 hv3 h3
        have HT1 := Lib.hid (fun W h => HT.out vb va W (WalkArith.wf_i64 (by simp only at hv2 hv3; omega)) (WalkArith.wf_i64 (by simp only at hv0 hv1; omega)) h)
        rw [h3.1, h3.2] at HT1
        have C0 := fun x : Lat wr => x.cell hc0
        have C1 := fun x : Lat wr => x.cell hc1
        have hbw := Lib.hid hb
        have HC2 := Lib.hid hc2
        have la := lat_blk kta4.out
        have lx := lat_blk ktx4.out
        clear hc0 hc1 hc2 hb hmem hv0 hv1 hv2 hv3 h3 hu HV1 HV2 F3 F4 F5 F6 F1 F2 HT
        go_wp2
        clear ra
        refine wp_region_lat (by kernel_rfl) (by kernel_rfl) ?_
        repeat (go_big_quiet_step ((go_at_call 24; with_reducible exact lat_call _ (HT1.out _ ((hrx4.out.below (Lat.below _)).more (Lat.below _).size)))))
        refine wpQuiet_nil ?_
        rintro w8 ⟨⟨_, hb8⟩, rfl⟩
        clear la lx C0 C1
        have HB8 := Lib.hid (on_ HBE.out hb8)
        have hc8 := (hb8.cell (p := ⟨b, off + k * 3 + 2, none⟩) hbw.out).trans HC2.out
        have ra8 := (kta4.out.on hb8).rule
        have hvv : (vc == vc) = true := by simp
        clear hb8 HBE hbw HC2 kta4 ktb4 ktx4 hra4 hrb4 hrx4 HT1
        --BBC
        go_wp2
        go_roundw
        case rel => exact ⟨k + 1, hk, by go_num, HB8.out⟩
        case measure => simp [intOf]; omega
      · have hkx : decide ((k : Int) < (n1 : Int)) = false := by simp; omega
        have hky : decide (k < n1) = false := by simp; omega
        clear hkn hk
        go_wp2
        clear ra hkx hky
        go_loopw [10, 11, 12] (fun i v6 f6 wt => ∃ k : Nat, k ≤ m1 ∧ i = .int .i64 k ∧ Below wr.heap.size wr wt) (fun i _ _ _ => m1 - (intOf i).toNat)
        case atStart => exact ⟨0, Nat.zero_le _, rfl, Below.refl _ _⟩
        case round =>
          obtain ⟨k, hkn, rfl, hbel⟩ := hrel
          have hrb5 := Lib.hid (hrb4.out.on hbel)
          have hrx5 := Lib.hid (hrx4.out.on hbel)
          have kta5 := Lib.hid (kta4.out.on hbel)
          have ktb5 := Lib.hid (ktb4.out.on hbel)
          have ktx5 := Lib.hid (ktx4.out.on hbel)
          have hB5 := Lib.hid (on_ hB4.out hbel)
          have HBF := Lib.hid hbel
          clear hbel
          have rb := ktb5.out.rule
          by_cases hk : k < m1
          · have hkx : (k : Int) < (m1 : Int) := by omega
            obtain ⟨b, off, rfl, hb, hc0, hc1, hc2⟩ := Rd3.at_ hrb5.out (k := k) (by rw [HM1.out]; omega)
            obtain ⟨hmem, hv0, hv1, hv2, hv3⟩ := HV2.out k hk
            have h3 := F4.out _ hmem
            obtain ⟨⟨va, vb, vc⟩, hu⟩ : ∃ u, us.getD k z3 = u := ⟨_, rfl⟩
            rw [hu] at hc0 hc1 hv0 hv1 hv2 hv3 h3
            have HT1 := Lib.hid (fun W h => HT.out vb va W (WalkArith.wf_i64 (by simp only at hv2 hv3; omega)) (WalkArith.wf_i64 (by simp only at hv0 hv1; omega)) h)
            rw [h3] at HT1
            generalize toldR X vb va = tv at *
            have C0 := fun x : Lat wr => x.cell hc0
            have C1 := fun x : Lat wr => x.cell hc1
            have lb := lat_blk ktb5.out
            have lx := lat_blk ktx5.out
            clear hc0 hc1 hc2 hb hmem hv0 hv1 hv2 hv3 h3 hu HV1 HV2 F3 F4 F5 F6 F1 F2 HT
            go_wp2
            clear rb
            refine wp_region_lat (by kernel_rfl) (by kernel_rfl) ?_
            repeat (go_big_quiet_step ((go_at_call 24; with_reducible exact lat_call _ (HT1.out _ ((hrx5.out.below (Lat.below _)).more (Lat.below _).size)))))
            refine wpQuiet_nil ?_
            rintro w8 ⟨⟨_, hb8⟩, rfl⟩
            clear lb lx C0 C1
            have HB8 := Lib.hid (on_ HBF.out hb8)
            clear hb8 HBF kta5 ktb5 ktx5 hrb5 hrx5 HT1
            go_wp2
            --BBF
            go_roundw
            case rel => exact ⟨k + 1, hk, by go_num, HB8.out⟩
            case measure => simp [intOf]; omega
          · have hkx : (m1 : Int) ≤ (k : Int) := by omega
            clear hkn hk
            have rx := ktx5.out.rule
            have HJ2 : Hid (∀ W, Rd3 W W.heap.size B5 X → Calls Try.prog 28 #[.agg #[.slice B5 N d5], .agg #[.slice B5 N d5]] W fun e w' => ∃ B6 d6, e = .returned (.tuple #[.agg #[.slice B6 N d6], .bool true]) ∧ Rd3 w' w'.heap.size B6 X ∧ Below W.heap.size W w') := fun W h => by
              have := implJoined_any B5 B5 d5 d5 X X W h h (by rw [HN.out]; omega) (by rw [HN.out]; omega)
              rw [F5.out, F6.out, HN.out] at this
              refine this.mono ?_
              rintro e w' ⟨B6, d6, rfl, ho, hb⟩
              exact ⟨B6, d6, by rw [HN.out], ho.rd, hb⟩
            have HST : Hid (∀ B6 d6 W, Rd3 W W.heap.size B5 X → Rd3 W W.heap.size B6 X → Calls Try.prog 29 #[.agg #[.slice B5 N d5], .agg #[.slice B6 N d6]] W fun e w' => e = .returned (.bool true) ∧ Below W.heap.size W w') := fun B6 d6 W h h2 => by
              rw [← HN.out]
              exact sameTally_same B5 B6 d5 d6 X W h h2 (by rw [HN.out]; omega)
            have HTO : Hid (∀ W, Rd3 W W.heap.size B5 X → Calls Try.prog 30 #[.agg #[.slice B5 N d5]] W fun e w' => e = .returned (.bool true) ∧ Below W.heap.size W w') := fun W h => by
              rw [← HN.out]
              exact implTallyOk_is true B5 d5 X F1.out W h (by rw [HN.out]; omega)
            have hle : (N : Int) ≤ (n1 : Int) + (m1 : Int) := by have := F2.out; rw [HN.out, HN1.out, HM1.out] at this; omega
            have HLE := Lib.hid hle
            clear hle F1 F2 F3 F4 F5 F6 HV1 HV2 HT
            go_wp2_with fail
            refine (HJ2.out wr hrx5.out).mono ?_
            rintro e w9 ⟨B6, d6, rfl, hry9, hb9⟩
            have kta9 := Lib.hid (kta5.out.on hb9)
            have ktb9 := Lib.hid (ktb5.out.on hb9)
            have ktx9 := Lib.hid (ktx5.out.on hb9)
            have hrx9 := Lib.hid (hrx5.out.on hb9)
            have hry9 := Lib.hid hry9
            have hB9 := Lib.hid (on_ hB5.out hb9)
            clear hb9 HBF hrb5 hrx5 kta5 ktb5 ktx5 hB5 rb rx HJ2
            have hry10 := Lib.hid (hry9.out.up (.cells #[.slice B6 N d6] 44))
            have hrx10 := Lib.hid (hrx9.out.up (.cells #[.slice B6 N d6] 44))
            have kta10 := Lib.hid (kta9.out.alloc (.cells #[.slice B6 N d6] 44))
            have ktb10 := Lib.hid (ktb9.out.alloc (.cells #[.slice B6 N d6] 44))
            have ktx10 := Lib.hid (ktx9.out.alloc (.cells #[.slice B6 N d6] 44))
            have kty10 := Lib.hid (Blk.new w9 44 #[.slice B6 N d6])
            have hB10 := Lib.hid (up_ hB9.out (.cells #[.slice B6 N d6] 44))
            clear hry9 hrx9 kta9 ktb9 ktx9 hB9
            have rx := ktx10.out.rule
            have ry := kty10.out.rule
            go_wp2_with fail
            refine (HST.out B6 d6 _ hrx10.out hry10.out).mono ?_
            rintro e w11 ⟨rfl, hb11⟩
            have kta11 := Lib.hid (kta10.out.on hb11)
            have ktb11 := Lib.hid (ktb10.out.on hb11)
            have ktx11 := Lib.hid (ktx10.out.on hb11)
            have hrx11 := Lib.hid (hrx10.out.on hb11)
            have hB11 := Lib.hid (on_ hB10.out hb11)
            clear hb11 hry10 hrx10 kta10 ktb10 ktx10 kty10 hB10 rx ry HST
            have rx := ktx11.out.rule
            go_wp2_with fail
            refine (HTO.out _ hrx11.out).mono ?_
            rintro e w12 ⟨rfl, hb12⟩
            have kta12 := Lib.hid (kta11.out.on hb12)
            have ktb12 := Lib.hid (ktb11.out.on hb12)
            have ktx12 := Lib.hid (ktx11.out.on hb12)
            have hB12 := Lib.hid (on_ hB11.out hb12)
            clear hb12 hrx11 kta11 ktb11 ktx11 hB11 rx HTO
            have rx := ktx12.out.rule
            have ra := kta12.out.rule
            have rb := ktb12.out.rule
            have hW : IntKind.i64.wrap ((n1 : Int) + (m1 : Int)) = (n1 : Int) + (m1 : Int) := IntWalk.i64_in _ (by omega)
            have hle := HLE.out
            --BBE
            go_wp2_with fail
            refine (tallies_any _).mono ?_
            rintro e wz ⟨rfl, hbz⟩
            have hBz := on_ hB12.out hbz
            go_wp2
            go_ret
            exact ⟨rfl, hBz⟩

theorem closed : joinedFacts Try.prog 7 Try.f7 Rows.fnJoinedsSpec Rows.fnJoinedsRow = true := by
  unfold joinedFacts
  rw [D.make_is, D.enter_is, D.final_is]
  kernel_rfl

set_option maxRecDepth 100000 in
theorem lifted (os : Os) (started : os.Started) (H : Type) (enc : TypeId × Value → H) :
    ReturnsInHanded {} Try.checked os 7 .any (Rows.fnJoinedsSpec.pre6 enc Try.prog Try.f7 Rows.fnJoinedsRow.domain false) (Rows.fnJoinedsSpec.post enc Try.prog Try.f7 false true false false) := by
  refine returnsInHanded_of_change (C := Try.checked) D.own started (by kernel_rfl) Try.func7
    (ChangeSpec.witness6 (enc := enc) (C := Try.checked) false ⟨#[], #[.slice none 0 0], []⟩ 8 (by kernel_rfl) (by kernel_rfl) (by kernel_rfl) (by kernel_rfl)) ?_
  intro W base args ds gs before hval0 hW hcnd _
  have hval : ∀ (j : Nat) t v, Try.f7.params[j]? = some t → args[j]? = some v → Value.okWide Try.prog W .any base t v := hval0
  have hW' := hW
  obtain ⟨p, q, hA0, hV, rfl, hfz, hnd⟩ := hW
  have hA : DataW.TrodAll enc Try.prog W 0 (fun _ => true) true Try.f7.params.toList args.toList ds p := hA0
  rw [Try.params7] at hA hval
  obtain ⟨v0, d0, rfl, rfl, h0⟩ := trodAll_one hA
  obtain ⟨a0, len0, cap0, rfl⟩ := okWide_slice Try.underlying22 (hval 0 22 v0 rfl rfl)
  obtain ⟨fuel0, hf0⟩ := h0
  obtain ⟨Ab, nb, cb, hcs0, hmb, hrb⟩ := open_code hf0
  have hv0 : (Value.slice a0 len0 cap0) = .slice Ab nb cb := by simpa [Value.cells] using hcs0
  rw [hv0] at hW' ⊢
  refine (walk Ab nb cb hmb W hrb).mono fun e W' ⟨he, hb⟩ => ⟨_, he, law_post D.laidOut hW' hb rfl (by kernel_rfl) Try.underlying4 (by kernel_rfl) rfl⟩

theorem over : Rows.fnJoinedsRow.holds Try.pinned (OpenSpec.ofChange Rows.fnJoinedsSpec) :=
  OpenClaim.holds_of_wide 7 Try.f7 rfl rfl rfl rfl rfl rfl rfl ⟨rfl, rfl, rfl, rfl, rfl⟩ rfl rfl rfl rfl rfl (by kernel_rfl) Try.func7 closed
    (of_decide_eq_true (by kernel_rfl)) (by unfold Func.isWrapper; first | (rw [if_pos (by decide +kernel)]; kernel_rfl) | (rw [if_neg (by decide +kernel)]; exact ⟨rfl, rfl⟩))
    (fun os started H enc _ => lifted os started H enc)

theorem proved : Rows.FnJoinedsSaid :=
  over
end Go.Proofs.Ytaegcdbgnjlbdaa.fnJoineds
