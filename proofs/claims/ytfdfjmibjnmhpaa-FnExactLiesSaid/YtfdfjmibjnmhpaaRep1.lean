/-
  What the helpers of the laws do with reports: copies and comparison. No statement is proved here.
-/
import Derived.Test.YtfdfjmibjnmhpaaChecked
import Derived.Test.YtfdfjmibjnmhpaaVotes
import Derived.Test.YtfdfjmibjnmhpaaRp
import Derived.StillTailTactics
set_option linter.unusedVariables false
set_option maxRecDepth 100000
namespace Go.Proofs.Ytfdfjmibjnmhpaa.V
open Go.RowKit Go.Proofs.Ytfdfjmibjnmhpaa.B

set_option maxHeartbeats 400000 in
theorem toReport_any (f a b : Int) (A : Option Addr) (c : Nat) (vs : List (Int × Int)) (w : World) (hr : Rd w w.heap.size A vs) (hn : vs.length ≤ 1048576) :
    Calls Try.prog 125 #[.agg #[.int .i64 f, .int .i64 a, .int .i64 b, .slice A vs.length c]] w fun e w' =>
      ∃ g cs, e = .returned (.agg #[.int .i64 f, .int .i64 a, .int .i64 b, .slice (some ⟨g, 0, none⟩) vs.length vs.length]) ∧ w.heap.size ≤ g ∧ Blk w' g 34 cs ∧ PC cs vs vs.length ∧ Below w.heap.size w w' := by
  go_enter Try.func125, Try.ntmps125
  go_wp2_with fail
  refine (toVote_any a b _).mono ?_
  rintro e w1 ⟨rfl, hb1⟩
  obtain ⟨hc1, hf1⟩ := bcell hb1
  have hz1 : w.heap.size + 2 < w1.heap.size := by have := hb1.size; simp at this; omega
  have hz1a : w.heap.size + 1 < w1.heap.size := by omega
  have hz1b : w.heap.size < w1.heap.size := by omega
  have hB1 : Below w.heap.size w w1 := Below.trans (by repeat (first | exact Below.refl _ _ | refine Below.alloc ?_ (by simp <;> omega) _ | refine Below.setCell ?_ (by simp <;> omega) _)) (hb1.mono (by simp; omega))
  have hr1 : Rd w1 w1.heap.size A vs := (hr.below hB1).more hB1.size
  clear hb1
  go_wp2_with fail
  refine (toVoteS_any A c vs _ ?_ hn).mono ?_
  · exact (hr.below (by repeat (first | exact hB1 | refine Below.setCell ?_ (by simp <;> omega) _))).more (by simp [World.setCell]; omega)
  rintro e w2 ⟨g, cs, rfl, hg, hk, hp, hb2⟩
  obtain ⟨hc2, hf2⟩ := bcell hb2
  have hz2 : w1.heap.size ≤ w2.heap.size := by have := hb2.size; simpa [World.setCell] using this
  have hz3 : w.heap.size + 2 < w2.heap.size := by omega
  have hz3a : w.heap.size + 1 < w2.heap.size := by omega
  have hz3b : w.heap.size < w2.heap.size := by omega
  have hg3 : w1.heap.size ≤ g := by simpa [World.setCell] using hg
  have hB2 : Below w.heap.size w w2 := Below.trans (by repeat (first | exact hB1 | refine Below.setCell ?_ (by simp <;> omega) _)) (hb2.mono (by simp [World.setCell]; omega))
  clear hb2 hr1 hB1 hg
  go_wp2
  refine bodyPost_ret (v := .agg #[.int .i64 f, .int .i64 a, .int .i64 b, .slice (some ⟨g, 0, none⟩) vs.length vs.length]) (by simp [results, Try.results125, go_sem, hc1, hc2, hz1a]) rfl ⟨g, cs, rfl, by omega, ?_, hp, ?_⟩
  · iterate 5 refine Blk.far ?_ (by simp; omega) _
    exact hk
  · iterate 5 refine Below.setCell ?_ (by simp <;> omega) _
    exact hB2

/-- The first k of n reports, copied to the block g at wr. -/
def Cpd (wr : World) (g n : Nat) (cs : Array Value) (ps qs : List Pp) (k : Nat) : Prop :=
  qs.length = k ∧ rl qs = (rl ps).take k ∧ PCR cs qs n k ∧ Vb wr 34 (g + 1) qs
theorem Cpd.step {wr w1 : World} {g n : Nat} {cs cv : Array Value} {ps qs : List Pp} {k : Nat} (h : Cpd wr g n cs ps qs k) (hk : k < n) (hn : ps.length = n) (hg : g < wr.heap.size) (f v x : Int) (vs : List (Int × Int)) (e : (ps.getD k zP).r = ⟨f, v, x, vs⟩)
    {g1 : Nat} (hg1 : wr.heap.size ≤ g1) (hb : Below wr.heap.size wr w1) (hk1 : Blk w1 g1 34 cv) (hp1 : PC cv vs vs.length) :
    Cpd ((((w1.setCell ⟨g, k * 4, none⟩ (.int .i64 f)).setCell ⟨g, k * 4 + 1, none⟩ (.int .i64 v)).setCell ⟨g, k * 4 + 2, none⟩ (.int .i64 x)).setCell ⟨g, k * 4 + 3, none⟩ (.slice (some ⟨g1, 0, none⟩) vs.length vs.length)) g n
      ((((cs.setIfInBounds (k * 4) (.int .i64 f)).setIfInBounds (k * 4 + 1) (.int .i64 v)).setIfInBounds (k * 4 + 2) (.int .i64 x)).setIfInBounds (k * 4 + 3) (.slice (some ⟨g1, 0, none⟩) vs.length vs.length)) ps (qs ++ [⟨⟨f, v, x, vs⟩, some ⟨g1, 0, none⟩, vs.length⟩]) (k + 1) := by
  obtain ⟨h1, h2, h3, h4⟩ := h
  refine ⟨by simp [h1], ?_, h3.step hk h1 ⟨⟨f, v, x, vs⟩, some ⟨g1, 0, none⟩, vs.length⟩, ?_⟩
  · rw [take_getD (rl ps) zR k (by rw [rl_len]; omega), rl_at, e, ← h2]
    simp [rl]
  · have h5 : Vb w1 34 (g + 1) (qs ++ [⟨⟨f, v, x, vs⟩, some ⟨g1, 0, none⟩, vs.length⟩]) := Vb.step (r := ⟨f, v, x, vs⟩) (Bd := 0) (h4.on hb) (by omega) (fun i hi b hb' => by have := h4.lt hi b hb'; omega) hk1 hp1
    exact (((h5.set_ (by simp) _).set_ (by simp) _).set_ (by simp) _).set_ (by simp) _

theorem infoR : (Try.prog.info? 89).map (fun i => (i.zero, i.size, i.bytes)) = some (some (.agg #[.int .i64 0, .int .i64 0, .int .i64 0, .slice none 0 0]), 4, 48) := by kernel_rfl

set_option maxHeartbeats 800000 in
theorem toReportS_any (A : Option Addr) (c : Nat) (ps : List Pp) (w : World) (hr : RdR w w.heap.size A ps) (hn : ps.length ≤ 1048576) (hv : ∀ i, i < ps.length → (ps.getD i zP).r.vs.length ≤ 1048576) :
    Calls Try.prog 106 #[.slice A ps.length c] w fun e w' => ∃ g cs qs, e = .returned (.slice (some ⟨g, 0, none⟩) ps.length ps.length) ∧ w.heap.size ≤ g ∧ Blk w' g 89 cs ∧ Cpd w' g ps.length cs ps qs ps.length ∧ Below w.heap.size w w' := by
  obtain ⟨i0, hi, hz0, hz1, hz2⟩ := info_parts infoR
  have hmk : ∀ u : World, (Instr.makeSlice 86 (.int .i64 (ps.length : Int)) (.int .i64 (ps.length : Int))).run Try.prog u =
      .ok (.slice (some ⟨u.heap.size, 0, none⟩) ps.length ps.length) (u.alloc (.cells (madeCells #[.int .i64 0, .int .i64 0, .int .i64 0, .slice none 0 0] (ps.length * 4)) 89)) := fun u => by
    have h := run_make_rowN (P := Try.prog) 86 89 i0 (.agg #[.int .i64 0, .int .i64 0, .int .i64 0, .slice none 0 0]) Try.underlying86 hi hz0 .i64 .i64 ps.length ps.length (Nat.le_refl _) (by rw [hz2]; omega) (by omega) u
    rw [h, hz1]; rfl
  clear hz2 hz1 hz0 hi
  obtain ⟨n, hvn⟩ : ∃ n, ps.length = n := ⟨_, rfl⟩
  rw [hvn] at hn hmk hv ⊢
  have HVL := Lib.hid hv; clear hv
  go_enter Try.func106, Try.ntmps106
  go_wp2
  have HV := Lib.hid hvn; clear hvn
  go_loopw [4] (fun i wr => ∃ (k : Nat) (cs : Array Value) (qs : List Pp), k ≤ n ∧ i = .int .i64 k ∧ Blk wr w.heap.size 89 cs ∧ Hid (Cpd wr w.heap.size n cs ps qs k) ∧ Below w.heap.size w wr) (fun i _ => n - (intOf i).toNat)
  case atStart => exact ⟨0, _, [], Nat.zero_le _, rfl, Blk.new _ _ _, ⟨rfl, by simp [rl], PCR.zero (by simp [madeCells]), Vb.nil_⟩, (Below.refl _ _).alloc (Nat.le_refl _) _⟩
  case round =>
    obtain ⟨k, cs, qs, hk, rfl, hblk, hpc, hbel⟩ := hrel
    by_cases hlt : k < n
    · obtain ⟨b, off, rfl, hb, hc0, hc1, hc2, hc3, hrv⟩ := RdR.at_ (hr.below hbel) (k := k) (by rw [HV.out]; omega)
      clear hr
      have hvl := HVL.out k hlt
      have hsz : cs.size = n * 4 := hpc.out.2.2.1.1
      obtain ⟨x0, hx0⟩ : ∃ x, cs[k * 4]? = some x := ⟨_, Array.getElem?_eq_getElem (by omega)⟩
      obtain ⟨x1, hx1⟩ : ∃ x, cs[k * 4 + 1]? = some x := ⟨_, Array.getElem?_eq_getElem (by omega)⟩
      obtain ⟨x2, hx2⟩ : ∃ x, cs[k * 4 + 2]? = some x := ⟨_, Array.getElem?_eq_getElem (by omega)⟩
      obtain ⟨x3, hx3⟩ : ∃ x, cs[k * 4 + 3]? = some x := ⟨_, Array.getElem?_eq_getElem (by omega)⟩
      have HX0 := Lib.hid hx0
      have HX1 := Lib.hid hx1
      have HX2 := Lib.hid hx2
      have HX3 := Lib.hid hx3
      clear hsz hx0 hx1 hx2 hx3
      obtain ⟨⟨⟨f, v, x, vs⟩, A', c'⟩, hu⟩ : ∃ u, ps.getD k zP = u := ⟨_, rfl⟩
      rw [hu] at hc0 hc1 hc2 hc3 hrv hvl
      have HU := Lib.hid hu; clear hu
      have HRV := Lib.hid ((hrv.more hbel.size : Rd wr wr.heap.size A' vs)); clear hrv
      have hgl : w.heap.size < wr.heap.size := hblk.lt
      go_wp2_with fail
      refine (toReport_any f v x A' c' vs _ HRV.out hvl).mono ?_
      rintro e w1 ⟨g1, cv, rfl, hg1, hk1, hp1, hb1⟩
      have hblk1 := hblk.on hb1
      have hf0 := hblk1.frozen (k * 4)
      have hf1 := hblk1.frozen (k * 4 + 1)
      have hf2 := hblk1.frozen (k * 4 + 2)
      have hf3 := hblk1.frozen (k * 4 + 3)
      have hy0 := (hblk1.cell (k * 4)).trans HX0.out
      have hy1 := (hblk1.cell (k * 4 + 1)).trans HX1.out
      have hy2 := (hblk1.cell (k * 4 + 2)).trans HX2.out
      have hy3 := (hblk1.cell (k * 4 + 3)).trans HX3.out
      have HC := Lib.hid (Cpd.step hpc.out hlt HV.out hgl f v x vs (by rw [HU.out]) hg1 hb1 hk1 hp1)
      have hB1 := hbel.trans (hb1.mono hbel.size)
      clear hk1 hp1 hb1 hg1 hpc
      go_wp2
      go_roundw
      case rel =>
        refine ⟨k + 1, _, _, by omega, by go_num, (((hblk1.set_ _ _).set_ _ _).set_ _ _).set_ _ _, HC, (((hB1.setCell (Nat.le_refl _) _).setCell (Nat.le_refl _) _).setCell (Nat.le_refl _) _).setCell (Nat.le_refl _) _⟩
      case measure => simp [intOf]; omega
    · go_wp2
      go_ret
      have hkn : k = n := by omega
      subst hkn
      exact ⟨_, cs, qs, rfl, Nat.le_refl _, hblk, hpc.out, hbel⟩
theorem Cpd.rd {w : World} {g n : Nat} {cs : Array Value} {ps qs : List Pp} (h : Cpd w g n cs ps qs n) (hb : Blk w g 89 cs) : RdR w w.heap.size (some ⟨g, 0, none⟩) qs := h.2.2.1.rd h.1 hb h.2.2.2
theorem Cpd.same {w : World} {g n : Nat} {cs : Array Value} {ps qs : List Pp} (h : Cpd w g n cs ps qs n) (hn : ps.length = n) : rl qs = rl ps := by
  rw [h.2.1, List.take_of_length_le (by rw [rl_len]; omega)]

theorem eqReport_same (f a b : Int) (A C : Option Addr) (c d : Nat) (vs : List (Int × Int)) (w : World) (hr : Rd w w.heap.size A vs) (hs : Rd w w.heap.size C vs) (hn : vs.length ≤ 1048576) :
    Calls Try.prog 130 #[.agg #[.int .i64 f, .int .i64 a, .int .i64 b, .slice A vs.length c], .agg #[.int .i64 f, .int .i64 a, .int .i64 b, .slice C vs.length d]] w fun e w' => e = .returned (.bool true) ∧ Below w.heap.size w w' := by
  have hne : ∀ i : Int, (i != i) = false := fun i => by simp
  go_enter Try.func130, Try.ntmps130
  go_wp2_with fail
  refine (eqVote_is true a b a b (by simp) _).mono ?_
  rintro e w1 ⟨rfl, hb1⟩
  obtain ⟨hc1, hf1⟩ := bcell hb1
  have hz1a : w.heap.size + 1 < w1.heap.size := by have := hb1.size; simp at this; omega
  have hz1b : w.heap.size < w1.heap.size := by omega
  have hB1 : Below w.heap.size w w1 := Below.trans (((Below.refl _ _).alloc (Nat.le_refl _) _).alloc (by simp) _) (hb1.mono (by simp; omega))
  have hr1 : Rd w1 w1.heap.size A vs := (hr.below hB1).more hB1.size
  have hs1 : Rd w1 w1.heap.size C vs := (hs.below hB1).more hB1.size
  clear hb1 hr hs
  go_wp2_with fail
  refine (eqVoteS_same A C c d vs _ hr1 hs1 hn).mono ?_
  rintro e w2 ⟨rfl, hb2⟩
  have hB2 : Below w.heap.size w w2 := hB1.trans (hb2.mono hB1.size)
  go_wp2
  go_ret
  exact ⟨rfl, hB2⟩

set_option maxHeartbeats 800000 in
theorem eqReportS_same (A C : Option Addr) (c d : Nat) (ps qs : List Pp) (hpq : rl qs = rl ps) (w : World) (hr : RdR w w.heap.size A ps) (hs : RdR w w.heap.size C qs) (hn : ps.length ≤ 1048576) (hv : ∀ i, i < ps.length → (ps.getD i zP).r.vs.length ≤ 1048576) :
    Calls Try.prog 116 #[.slice A ps.length c, .slice C ps.length d] w fun e w' => e = .returned (.bool true) ∧ Below w.heap.size w w' := by
  have hlen : qs.length = ps.length := by rw [← rl_len, hpq, rl_len]
  have hel : ∀ k, (qs.getD k zP).r = (ps.getD k zP).r := fun k => by rw [← rl_at, hpq, rl_at]
  obtain ⟨n, hvn⟩ : ∃ n, ps.length = n := ⟨_, rfl⟩
  rw [hvn] at hn hv hlen ⊢
  have HVL := Lib.hid hv; clear hv
  have HV := Lib.hid hvn; clear hvn
  have HQ := Lib.hid hlen; clear hlen
  have HE := Lib.hid hel; clear hel hpq
  have hne : ∀ i : Int, (i != i) = false := fun i => by simp
  go_enter Try.func116, Try.ntmps116
  go_wp2
  go_loopw [5] (fun i wr => ∃ (k : Nat), k ≤ n ∧ i = .int .i64 k ∧ Below w.heap.size w wr) (fun i _ => n - (intOf i).toNat)
  case atStart => exact ⟨0, Nat.zero_le _, rfl, Below.refl _ _⟩
  case round =>
    obtain ⟨k, hk, rfl, hbel⟩ := hrel
    by_cases hlt : k < n
    · obtain ⟨b, off, rfl, hb, hc0, hc1, hc2, hc3, hrv⟩ := RdR.at_ (hr.below hbel) (k := k) (by rw [HV.out]; omega)
      obtain ⟨b', off', rfl, hb', hc0', hc1', hc2', hc3', hrv'⟩ := RdR.at_ (hs.below hbel) (k := k) (by rw [HQ.out]; omega)
      clear hr hs
      have hvl := HVL.out k hlt
      have he := HE.out k
      obtain ⟨⟨⟨f, v, x, vs⟩, A', c'⟩, hu⟩ : ∃ u, ps.getD k zP = u := ⟨_, rfl⟩
      obtain ⟨⟨⟨f', v', x', vs'⟩, A'', c''⟩, hu'⟩ : ∃ u, qs.getD k zP = u := ⟨_, rfl⟩
      rw [hu] at hc0 hc1 hc2 hc3 hrv hvl he
      rw [hu'] at hc0' hc1' hc2' hc3' hrv' he
      clear hu hu'
      simp only [Rp.mk.injEq] at he
      obtain ⟨rfl, rfl, rfl, rfl⟩ := he
      have HR1 := Lib.hid ((hrv.more hbel.size : Rd wr wr.heap.size A' vs')); clear hrv
      have HR2 := Lib.hid ((hrv'.more hbel.size : Rd wr wr.heap.size A'' vs')); clear hrv'
      go_wp2
      go_still_tail 8, (by kernel_rfl)
      have hbd : Below w.heap.size w wr.drew := hbel.drew
      have hd1 : Rd wr.drew wr.drew.heap.size A' vs' := HR1.out
      have hd2 : Rd wr.drew wr.drew.heap.size A'' vs' := HR2.out
      change wpList _ _ _ _ _ wr.drew
      generalize wr.drew = w2 at *
      go_wp2_with fail
      refine (eqReport_same _ _ _ _ _ _ _ _ _ hd1 hd2 hvl).mono ?_
      rintro e w1 ⟨rfl, hb1⟩
      go_wp2
      go_roundw
      case rel => exact ⟨k + 1, by omega, by go_num, hbd.trans (hb1.mono hbd.size)⟩
      case measure => simp [intOf]; omega
    · go_wp2
      go_ret
      exact ⟨rfl, hbel⟩
end Go.Proofs.Ytfdfjmibjnmhpaa.V
