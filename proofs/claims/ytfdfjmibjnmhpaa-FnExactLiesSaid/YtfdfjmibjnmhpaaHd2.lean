/-
  What the helpers of the laws do with what was heard: copies and comparison. No statement is proved here.
-/
import Derived.Test.YtfdfjmibjnmhpaaHd
set_option linter.unusedVariables false
set_option maxRecDepth 100000
namespace Go.Proofs.Ytfdfjmibjnmhpaa.V
open Go.RowKit Go.Proofs.Ytfdfjmibjnmhpaa.B

set_option maxHeartbeats 400000 in
theorem toHeard_any (v : Int) (A : Option Addr) (c : Nat) (ps : List Pp) (w : World) (hr : RdR w w.heap.size A ps) (hf : Few ps) :
    Calls Try.prog 79 #[.agg #[.int .i64 v, .slice A ps.length c]] w fun e w' =>
      ∃ g qs, e = .returned (.agg #[.int .i64 v, .slice (some ⟨g, 0, none⟩) qs.length qs.length]) ∧ rl qs = rl ps ∧ HiR w' w.heap.size (some ⟨g, 0, none⟩) qs ∧ Below w.heap.size w w' := by
  have hr3 := ((hr.up (.cells #[.int .i64 v, .slice A ps.length c] 113)).up (.cells #[.int .i64 0, .slice none 0 0] 122)).up (.cells #[.int .i64 v, .slice none 0 0] 122)
  have ko := Blk.new ((w.alloc (.cells #[.int .i64 v, .slice A ps.length c] 113)).alloc (.cells #[.int .i64 0, .slice none 0 0] 122)) 122 #[.int .i64 v, .slice none 0 0]
  have kr := (Blk.new (w.alloc (.cells #[.int .i64 v, .slice A ps.length c] 113)) 122 #[.int .i64 0, .slice none 0 0]).alloc (.cells #[.int .i64 v, .slice none 0 0] 122)
  simp only [World.size_alloc] at ko kr
  have HT := Lib.hid (toReportS_any A c ps _ hr3 hf.1 hf.2)
  clear hr3 hr hf
  go_enter Try.func79, Try.ntmps79
  go_wp2_with fail
  refine HT.out.mono ?_
  rintro e w1 ⟨g, cs, qs, rfl, hg, hk, hp, hb1⟩
  have ko1 := ko.on hb1
  have kr1 := kr.on hb1
  have hB1 := on_ (up_ (up_ (up_ (Below.refl w.heap.size w) _) _) _) hb1
  have hs1 := hb1.size
  simp only [World.size_alloc] at hs1 hg
  have hsame := hp.same rfl
  have hql : qs.length = ps.length := hp.1
  have HP := Lib.hid (hp.2.2.1.hi hql hk hp.2.2.2 (show w.heap.size + 3 ≤ g by omega)); clear hp hk hb1 ko kr HT
  have HQ := Lib.hid hsame; clear hsame
  obtain ⟨m, hm⟩ : ∃ m, ps.length = m := ⟨_, rfl⟩
  rw [hm] at hql ⊢
  have HL := Lib.hid hql; clear hql hm
  have ro1 := ko1.rule
  have fo1 := fun i => ko1.frozen i
  have ko2 : Blk (w1.setCell ⟨w.heap.size + 1 + 1, 1, none⟩ (.slice (some ⟨g, 0, none⟩) m m)) (w.heap.size + 1 + 1) 122 #[.int .i64 v, .slice (some ⟨g, 0, none⟩) m m] := ko1.set_ 1 _
  have kr2 := kr1.far (p := ⟨w.heap.size + 1 + 1, 1, none⟩) (by simp) (.slice (some ⟨g, 0, none⟩) m m)
  have ro2 := ko2.rule
  have rr2 := kr2.rule
  have fr2 := fun i => kr2.frozen i
  have kr3 : Blk ((w1.setCell ⟨w.heap.size + 1 + 1, 1, none⟩ (.slice (some ⟨g, 0, none⟩) m m)).setCell ⟨w.heap.size + 1, 0, none⟩ (.int .i64 v)) (w.heap.size + 1) 122 #[.int .i64 v, .slice none 0 0] := kr2.set_ 0 _
  have rr3 := kr3.rule
  have fr3 := fun i => kr3.frozen i
  have kr4 : Blk (((w1.setCell ⟨w.heap.size + 1 + 1, 1, none⟩ (.slice (some ⟨g, 0, none⟩) m m)).setCell ⟨w.heap.size + 1, 0, none⟩ (.int .i64 v)).setCell ⟨w.heap.size + 1, 1, none⟩ (.slice (some ⟨g, 0, none⟩) m m)) (w.heap.size + 1) 122 #[.int .i64 v, .slice (some ⟨g, 0, none⟩) m m] := kr3.set_ 1 _
  have rr4 := kr4.rule
  go_wp2
  refine bodyPost_ret (v := .agg #[.int .i64 v, .slice (some ⟨g, 0, none⟩) m m]) (by simp [results, Try.results79, go_sem, rr4]) rfl ⟨g, qs, by rw [HL.out], HQ.out, ?_, ?_⟩
  · exact (((HP.out.set_ (by simp <;> omega) _).set_ (by simp <;> omega) _).set_ (by simp <;> omega) _).low (by omega)
  · iterate 3 refine Below.setCell ?_ (by simp <;> omega) _
    exact hB1

theorem infoH : (Try.prog.info? 122).map (fun i => (i.zero, i.size, i.bytes)) = some (some (.agg #[.int .i64 0, .slice none 0 0]), 2, 32) := by kernel_rfl

set_option maxHeartbeats 800000 in
theorem toHeardS_any (A : Option Addr) (c : Nat) (hs : List Hp) (w : World) (hr : RdH w w.heap.size A hs) (hf : FewH hs) :
    Calls Try.prog 41 #[.slice A hs.length c] w fun e w' => ∃ g cs qs, e = .returned (.slice (some ⟨g, 0, none⟩) hs.length hs.length) ∧ w.heap.size ≤ g ∧ Blk w' g 122 cs ∧ CpH w' g hs.length cs hs qs hs.length ∧ Below w.heap.size w w' := by
  obtain ⟨i0, hi, hz0, hz1, hz2⟩ := info_parts infoH
  obtain ⟨hn, hv⟩ := hf
  have hmk : ∀ u : World, (Instr.makeSlice 38 (.int .i64 (hs.length : Int)) (.int .i64 (hs.length : Int))).run Try.prog u =
      .ok (.slice (some ⟨u.heap.size, 0, none⟩) hs.length hs.length) (u.alloc (.cells (madeCells #[.int .i64 0, .slice none 0 0] (hs.length * 2)) 122)) := fun u => by
    have h := run_make_rowN (P := Try.prog) 38 122 i0 (.agg #[.int .i64 0, .slice none 0 0]) Try.underlying38 hi hz0 .i64 .i64 hs.length hs.length (Nat.le_refl _) (by rw [hz2]; omega) (by omega) u
    rw [h, hz1]; rfl
  clear hz2 hz1 hz0 hi
  obtain ⟨n, hvn⟩ : ∃ n, hs.length = n := ⟨_, rfl⟩
  rw [hvn] at hn hmk hv ⊢
  have HVL := Lib.hid hv; clear hv
  go_enter Try.func41, Try.ntmps41
  go_wp2
  have HV := Lib.hid hvn; clear hvn
  go_loopw [4] (fun i wr => ∃ (k : Nat) (cs : Array Value) (qs : List Hp), k ≤ n ∧ i = .int .i64 k ∧ Blk wr w.heap.size 122 cs ∧ Hid (CpH wr w.heap.size n cs hs qs k) ∧ Below w.heap.size w wr) (fun i _ => n - (intOf i).toNat)
  case atStart => exact ⟨0, _, [], Nat.zero_le _, rfl, Blk.new _ _ _, CpH.zero (by simp [madeCells]), (Below.refl _ _).alloc (Nat.le_refl _) _⟩
  case round =>
    obtain ⟨k, cs, qs, hk, rfl, hblk, hpc, hbel⟩ := hrel
    by_cases hlt : k < n
    · obtain ⟨b, off, rfl, hb, hc0, hc1, hrv⟩ := RdH.at_ (hr.below hbel) (k := k) (by rw [HV.out]; omega)
      clear hr
      have hvl := HVL.out k hlt
      have hsz : cs.size = n * 2 := hpc.out.2.2.1
      obtain ⟨x0, hx0⟩ : ∃ x, cs[k * 2]? = some x := ⟨_, Array.getElem?_eq_getElem (by omega)⟩
      obtain ⟨x1, hx1⟩ : ∃ x, cs[k * 2 + 1]? = some x := ⟨_, Array.getElem?_eq_getElem (by omega)⟩
      have HX0 := Lib.hid hx0
      have HX1 := Lib.hid hx1
      clear hsz hx0 hx1
      obtain ⟨⟨v, ps, A', c'⟩, hu⟩ : ∃ u, hs.getD k zH = u := ⟨_, rfl⟩
      rw [hu] at hc0 hc1 hrv hvl
      simp only at hc0 hc1 hrv hvl
      have HU := Lib.hid hu; clear hu
      have HRV := Lib.hid ((hrv.more hbel.size : RdR wr wr.heap.size A' ps)); clear hrv
      have HVV := Lib.hid hvl; clear hvl
      have hgl : w.heap.size < wr.heap.size := hblk.lt
      go_wp2_with fail
      refine (toHeard_any v A' c' ps _ HRV.out HVV.out).mono ?_
      rintro e w1 ⟨g1, us, rfl, he1, hh1, hb1⟩
      have hblk1 := hblk.on hb1
      have hf0 := hblk1.frozen (k * 2)
      have hf1 := hblk1.frozen (k * 2 + 1)
      have hy0 := (hblk1.cell (k * 2)).trans HX0.out
      have hy1 := (hblk1.cell (k * 2 + 1)).trans HX1.out
      have HC := Lib.hid (CpH.step hpc.out hlt HV.out v ps us (some ⟨g1, 0, none⟩) us.length (by rw [HU.out]; show (v, rl ps) = _; rw [he1]) hb1 (hh1.low (by omega)))
      have hB1 := hbel.trans (hb1.mono hbel.size)
      clear hh1 hb1 he1 hpc
      go_wp2
      go_roundw
      case rel =>
        refine ⟨k + 1, _, _, by omega, by go_num, (hblk1.set_ _ _).set_ _ _, HC, (hB1.setCell (Nat.le_refl _) _).setCell (Nat.le_refl _) _⟩
      case measure => simp [intOf]; omega
    · go_wp2
      go_ret
      have hkn : k = n := by omega
      subst hkn
      exact ⟨_, cs, qs, rfl, Nat.le_refl _, hblk, hpc.out, hbel⟩

theorem eqHeard_same (v : Int) (A C : Option Addr) (c d : Nat) (ps qs : List Pp) (hpq : rl qs = rl ps) (w : World) (hr : RdR w w.heap.size A ps) (hs : RdR w w.heap.size C qs) (hf : Few ps) :
    Calls Try.prog 91 #[.agg #[.int .i64 v, .slice A ps.length c], .agg #[.int .i64 v, .slice C ps.length d]] w fun e w' => e = .returned (.bool true) ∧ Below w.heap.size w w' := by
  have hr2 := (hr.up (.cells #[.int .i64 v, .slice A ps.length c] 122)).up (.cells #[.int .i64 v, .slice C ps.length d] 122)
  have hs2 := (hs.up (.cells #[.int .i64 v, .slice A ps.length c] 122)).up (.cells #[.int .i64 v, .slice C ps.length d] 122)
  have HE := Lib.hid (eqReportS_same A C c d ps qs hpq _ hr2 hs2 hf.1 hf.2)
  clear hr2 hs2 hr hs
  have hne : ∀ i : Int, (i != i) = false := fun i => by simp
  go_enter Try.func91, Try.ntmps91
  go_wp2_with fail
  refine HE.out.mono ?_
  rintro e w1 ⟨rfl, hb1⟩
  have hB1 := on_ (up_ (up_ (Below.refl w.heap.size w) _) _) hb1
  clear hb1
  go_wp2
  go_ret
  exact ⟨rfl, hB1⟩

set_option maxHeartbeats 800000 in
theorem eqHeardS_same (A C : Option Addr) (c d : Nat) (hs us : List Hp) (hpq : hl us = hl hs) (w : World) (hr : RdH w w.heap.size A hs) (hq : RdH w w.heap.size C us) (hf : FewH hs) :
    Calls Try.prog 47 #[.slice A hs.length c, .slice C hs.length d] w fun e w' => e = .returned (.bool true) ∧ Below w.heap.size w w' := by
  have hlen : us.length = hs.length := by rw [← hl_len, hpq, hl_len]
  have hel : ∀ k, hd1 (us.getD k zH) = hd1 (hs.getD k zH) := fun k => by rw [← hl_at, hpq, hl_at]
  obtain ⟨hn, hv⟩ := hf
  obtain ⟨n, hvn⟩ : ∃ n, hs.length = n := ⟨_, rfl⟩
  rw [hvn] at hn hv hlen ⊢
  have HVL := Lib.hid hv; clear hv
  have HV := Lib.hid hvn; clear hvn
  have HQ := Lib.hid hlen; clear hlen
  have HE := Lib.hid hel; clear hel hpq
  go_enter Try.func47, Try.ntmps47
  have hne : ∀ i : Int, (i != i) = false := fun i => by simp
  go_wp2
  go_loopw [5] (fun i wr => ∃ (k : Nat), k ≤ n ∧ i = .int .i64 k ∧ Below w.heap.size w wr) (fun i _ => n - (intOf i).toNat)
  case atStart => exact ⟨0, Nat.zero_le _, rfl, Below.refl _ _⟩
  case round =>
    obtain ⟨k, hk, rfl, hbel⟩ := hrel
    by_cases hlt : k < n
    · obtain ⟨b, off, rfl, hb, hc0, hc1, hrv⟩ := RdH.at_ (hr.below hbel) (k := k) (by rw [HV.out]; omega)
      obtain ⟨b', off', rfl, hb', hc0', hc1', hrv'⟩ := RdH.at_ (hq.below hbel) (k := k) (by rw [HQ.out]; omega)
      clear hr hq
      have hvl := HVL.out k hlt
      have he := HE.out k
      obtain ⟨⟨v, ps, A', c'⟩, hu⟩ : ∃ u, hs.getD k zH = u := ⟨_, rfl⟩
      obtain ⟨⟨v', ps', A'', c''⟩, hu'⟩ : ∃ u, us.getD k zH = u := ⟨_, rfl⟩
      rw [hu] at hc0 hc1 hrv hvl he
      rw [hu'] at hc0' hc1' hrv' he
      clear hu hu'
      simp only at hc0 hc1 hrv hvl hc0' hc1' hrv'
      simp only [hd1, Prod.mk.injEq] at he
      obtain ⟨rfl, he2⟩ := he
      have hll : ps'.length = ps.length := by rw [← rl_len, he2, rl_len]
      rw [hll] at hc1'
      have HR1 := Lib.hid ((hrv.more hbel.size : RdR wr wr.heap.size A' ps)); clear hrv
      have HR2 := Lib.hid ((hrv'.more hbel.size : RdR wr wr.heap.size A'' ps')); clear hrv'
      have HE2 := Lib.hid he2; clear he2 hll
      have HVV := Lib.hid hvl; clear hvl
      go_wp2
      go_still_tail 8, (by kernel_rfl)
      have hbd : Below w.heap.size w wr.drew := hbel.drew
      have hd1 : RdR wr.drew wr.drew.heap.size A' ps := HR1.out
      have hd2 : RdR wr.drew wr.drew.heap.size A'' ps' := HR2.out
      change wpList _ _ _ _ _ wr.drew
      generalize wr.drew = w2 at *
      go_wp2_with fail
      refine (eqHeard_same _ _ _ _ _ _ _ HE2.out _ hd1 hd2 HVV.out).mono ?_
      rintro e w1 ⟨rfl, hb1⟩
      go_wp2
      go_roundw
      case rel => exact ⟨k + 1, by omega, by go_num, hbd.trans (hb1.mono hbd.size)⟩
      case measure => simp [intOf]; omega
    · go_wp2
      go_ret
      exact ⟨rfl, hbel⟩
end Go.Proofs.Ytfdfjmibjnmhpaa.V
