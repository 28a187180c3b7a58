/-
  What the helpers of the laws do with reports: copies and comparison. What the helpers of the laws count of reports: contracts of szReport and szReportS. Lists of heard reports in memory: slices of a view and a slice of reports, and how they read. What the helpers of the laws do with what was heard: copies and comparison. No statement is proved here.
-/
import Derived.Test.YtfdfjmibjnmhpaaChecked
import Derived.Test.YtfdfjmibjnmhpaaK01
import Derived.StillTailTactics
set_option linter.unusedVariables false
set_option maxRecDepth 100000
namespace Go.Proofs.Ytfdfjmibjnmhpaa.V
open Go.RowKit Go.Proofs.Ytfdfjmibjnmhpaa.B

set_option maxHeartbeats 400000 in
theorem toReport_any (f a b : Int) (A : Option Addr) (c : Nat) (vs : List (Int × Int)) (w : World) (hr : Rd w w.heap.size A vs) (hn : vs.length ≤ 1048576) :
    Calls Try.prog 125 #[.agg #[.int .i64 f, .int .i64 a, .int .i64 b, .slice A vs.length c]] w fun e w' =>
      ∃ g cs, e = .returned (.agg #[.int .i64 f, .int .i64 a, .int .i64 b, .slice (some ⟨g, 0, none⟩) vs.length vs.length]) ∧ w.heap.size ≤ g ∧ Blk w' g 34 cs ∧ PC cs vs vs.length ∧ Below w.heap.size w w' := by
  go_enter Try.func125, Try.ntmps125
  go_wp2_with fail
  refine (toVote_any a b _).mono ?_
  rintro e w1 ⟨rfl, hb1⟩
  obtain ⟨hc1, hf1⟩ := bcell hb1
  have hz1 : w.heap.size + 2 < w1.heap.size := by have := hb1.size; simp at this; omega
  have hz1a : w.heap.size + 1 < w1.heap.size := by omega
  have hz1b : w.heap.size < w1.heap.size := by omega
  have hB1 : Below w.heap.size w w1 := Below.trans (by repeat (first | exact Below.refl _ _ | refine Below.alloc ?_ (by simp <;> omega) _ | refine Below.setCell ?_ (by simp <;> omega) _)) (hb1.mono (by simp; omega))
  have hr1 : Rd w1 w1.heap.size A vs := (hr.below hB1).more hB1.size
  clear hb1
  go_wp2_with fail
  refine (toVoteS_any A c vs _ ?_ hn).mono ?_
  · exact (hr.below (by repeat (first | exact hB1 | refine Below.setCell ?_ (by simp <;> omega) _))).more (by simp [World.setCell]; omega)
  rintro e w2 ⟨g, cs, rfl, hg, hk, hp, hb2⟩
  obtain ⟨hc2, hf2⟩ := bcell hb2
  have hz2 : w1.heap.size ≤ w2.heap.size := by have := hb2.size; simpa [World.setCell] using this
  have hz3 : w.heap.size + 2 < w2.heap.size := by omega
  have hz3a : w.heap.size + 1 < w2.heap.size := by omega
  have hz3b : w.heap.size < w2.heap.size := by omega
  have hg3 : w1.heap.size ≤ g := by simpa [World.setCell] using hg
  have hB2 : Below w.heap.size w w2 := Below.trans (by repeat (first | exact hB1 | refine Below.setCell ?_ (by simp <;> omega) _)) (hb2.mono (by simp [World.setCell]; omega))
  clear hb2 hr1 hB1 hg
  go_wp2
  refine bodyPost_ret (v := .agg #[.int .i64 f, .int .i64 a, .int .i64 b, .slice (some ⟨g, 0, none⟩) vs.length vs.length]) (by simp [results, Try.results125, go_sem, hc1, hc2, hz1a]) rfl ⟨g, cs, rfl, by omega, ?_, hp, ?_⟩
  · iterate 5 refine Blk.far ?_ (by simp; omega) _
    exact hk
  · iterate 5 refine Below.setCell ?_ (by simp <;> omega) _
    exact hB2

/-- The first k of n reports, copied to the block g at wr. -/
def Cpd (wr : World) (g n : Nat) (cs : Array Value) (ps qs : List Pp) (k : Nat) : Prop :=
  qs.length = k ∧ rl qs = (rl ps).take k ∧ PCR cs qs n k ∧ Vb wr 34 (g + 1) qs
theorem Cpd.step {wr w1 : World} {g n : Nat} {cs cv : Array Value} {ps qs : List Pp} {k : Nat} (h : Cpd wr g n cs ps qs k) (hk : k < n) (hn : ps.length = n) (hg : g < wr.heap.size) (f v x : Int) (vs : List (Int × Int)) (e : (ps.getD k zP).r = ⟨f, v, x, vs⟩)
    {g1 : Nat} (hg1 : wr.heap.size ≤ g1) (hb : Below wr.heap.size wr w1) (hk1 : Blk w1 g1 34 cv) (hp1 : PC cv vs vs.length) :
    Cpd ((((w1.setCell ⟨g, k * 4, none⟩ (.int .i64 f)).setCell ⟨g, k * 4 + 1, none⟩ (.int .i64 v)).setCell ⟨g, k * 4 + 2, none⟩ (.int .i64 x)).setCell ⟨g, k * 4 + 3, none⟩ (.slice (some ⟨g1, 0, none⟩) vs.length vs.length)) g n
      ((((cs.setIfInBounds (k * 4) (.int .i64 f)).setIfInBounds (k * 4 + 1) (.int .i64 v)).setIfInBounds (k * 4 + 2) (.int .i64 x)).setIfInBounds (k * 4 + 3) (.slice (some ⟨g1, 0, none⟩) vs.length vs.length)) ps (qs ++ [⟨⟨f, v, x, vs⟩, some ⟨g1, 0, none⟩, vs.length⟩]) (k + 1) := by
  obtain ⟨h1, h2, h3, h4⟩ := h
  refine ⟨by simp [h1], ?_, h3.step hk h1 ⟨⟨f, v, x, vs⟩, some ⟨g1, 0, none⟩, vs.length⟩, ?_⟩
  · rw [take_getD (rl ps) zR k (by rw [rl_len]; omega), rl_at, e, ← h2]
    simp [rl]
  · have h5 : Vb w1 34 (g + 1) (qs ++ [⟨⟨f, v, x, vs⟩, some ⟨g1, 0, none⟩, vs.length⟩]) := Vb.step (r := ⟨f, v, x, vs⟩) (Bd := 0) (h4.on hb) (by omega) (fun i hi b hb' => by have := h4.lt hi b hb'; omega) hk1 hp1
    exact (((h5.set_ (by simp) _).set_ (by simp) _).set_ (by simp) _).set_ (by simp) _

theorem infoR : (Try.prog.info? 89).map (fun i => (i.zero, i.size, i.bytes)) = some (some (.agg #[.int .i64 0, .int .i64 0, .int .i64 0, .slice none 0 0]), 4, 48) := by kernel_rfl

set_option maxHeartbeats 800000 in
theorem toReportS_any (A : Option Addr) (c : Nat) (ps : List Pp) (w : World) (hr : RdR w w.heap.size A ps) (hn : ps.length ≤ 1048576) (hv : ∀ i, i < ps.length → (ps.getD i zP).r.vs.length ≤ 1048576) :
    Calls Try.prog 106 #[.slice A ps.length c] w fun e w' => ∃ g cs qs, e = .returned (.slice (some ⟨g, 0, none⟩) ps.length ps.length) ∧ w.heap.size ≤ g ∧ Blk w' g 89 cs ∧ Cpd w' g ps.length cs ps qs ps.length ∧ Below w.heap.size w w' := by
  obtain ⟨i0, hi, hz0, hz1, hz2⟩ := info_parts infoR
  have hmk : ∀ u : World, (Instr.makeSlice 86 (.int .i64 (ps.length : Int)) (.int .i64 (ps.length : Int))).run Try.prog u =
      .ok (.slice (some ⟨u.heap.size, 0, none⟩) ps.length ps.length) (u.alloc (.cells (madeCells #[.int .i64 0, .int .i64 0, .int .i64 0, .slice none 0 0] (ps.length * 4)) 89)) := fun u => by
    have h := run_make_rowN (P := Try.prog) 86 89 i0 (.agg #[.int .i64 0, .int .i64 0, .int .i64 0, .slice none 0 0]) Try.underlying86 hi hz0 .i64 .i64 ps.length ps.length (Nat.le_refl _) (by rw [hz2]; omega) (by omega) u
    rw [h, hz1]; rfl
  clear hz2 hz1 hz0 hi
  obtain ⟨n, hvn⟩ : ∃ n, ps.length = n := ⟨_, rfl⟩
  rw [hvn] at hn hmk hv ⊢
  have HVL := Lib.hid hv; clear hv
  go_enter Try.func106, Try.ntmps106
  go_wp2
  have HV := Lib.hid hvn; clear hvn
  go_loopw [4] (fun i wr => ∃ (k : Nat) (cs : Array Value) (qs : List Pp), k ≤ n ∧ i = .int .i64 k ∧ Blk wr w.heap.size 89 cs ∧ Hid (Cpd wr w.heap.size n cs ps qs k) ∧ Below w.heap.size w wr) (fun i _ => n - (intOf i).toNat)
  case atStart => exact ⟨0, _, [], Nat.zero_le _, rfl, Blk.new _ _ _, ⟨rfl, by simp [rl], PCR.zero (by simp [madeCells]), Vb.nil_⟩, (Below.refl _ _).alloc (Nat.le_refl _) _⟩
  case round =>
    obtain ⟨k, cs, qs, hk, rfl, hblk, hpc, hbel⟩ := hrel
    by_cases hlt : k < n
    · obtain ⟨b, off, rfl, hb, hc0, hc1, hc2, hc3, hrv⟩ := RdR.at_ (hr.below hbel) (k := k) (by rw [HV.out]; omega)
      clear hr
      have hvl := HVL.out k hlt
      have hsz : cs.size = n * 4 := hpc.out.2.2.1.1
      obtain ⟨x0, hx0⟩ : ∃ x, cs[k * 4]? = some x := ⟨_, Array.getElem?_eq_getElem (by omega)⟩
      obtain ⟨x1, hx1⟩ : ∃ x, cs[k * 4 + 1]? = some x := ⟨_, Array.getElem?_eq_getElem (by omega)⟩
      obtain ⟨x2, hx2⟩ : ∃ x, cs[k * 4 + 2]? = some x := ⟨_, Array.getElem?_eq_getElem (by omega)⟩
      obtain ⟨x3, hx3⟩ : ∃ x, cs[k * 4 + 3]? = some x := ⟨_, Array.getElem?_eq_getElem (by omega)⟩
      have HX0 := Lib.hid hx0
      have HX1 := Lib.hid hx1
      have HX2 := Lib.hid hx2
      have HX3 := Lib.hid hx3
      clear hsz hx0 hx1 hx2 hx3
      obtain ⟨⟨⟨f, v, x, vs⟩, A', c'⟩, hu⟩ : ∃ u, ps.getD k zP = u := ⟨_, rfl⟩
      rw [hu] at hc0 hc1 hc2 hc3 hrv hvl
      have HU := Lib.hid hu; clear hu
      have HRV := Lib.hid ((hrv.more hbel.size : Rd wr wr.heap.size A' vs)); clear hrv
      have hgl : w.heap.size < wr.heap.size := hblk.lt
      go_wp2_with fail
      refine (toReport_any f v x A' c' vs _ HRV.out hvl).mono ?_
      rintro e w1 ⟨g1, cv, rfl, hg1, hk1, hp1, hb1⟩
      have hblk1 := hblk.on hb1
      have hf0 := hblk1.frozen (k * 4)
      have hf1 := hblk1.frozen (k * 4 + 1)
      have hf2 := hblk1.frozen (k * 4 + 2)
      have hf3 := hblk1.frozen (k * 4 + 3)
      have hy0 := (hblk1.cell (k * 4)).trans HX0.out
      have hy1 := (hblk1.cell (k * 4 + 1)).trans HX1.out
      have hy2 := (hblk1.cell (k * 4 + 2)).trans HX2.out
      have hy3 := (hblk1.cell (k * 4 + 3)).trans HX3.out
      have HC := Lib.hid (Cpd.step hpc.out hlt HV.out hgl f v x vs (by rw [HU.out]) hg1 hb1 hk1 hp1)
      have hB1 := hbel.trans (hb1.mono hbel.size)
      clear hk1 hp1 hb1 hg1 hpc
      go_wp2
      go_roundw
      case rel =>
        refine ⟨k + 1, _, _, by omega, by go_num, (((hblk1.set_ _ _).set_ _ _).set_ _ _).set_ _ _, HC, (((hB1.setCell (Nat.le_refl _) _).setCell (Nat.le_refl _) _).setCell (Nat.le_refl _) _).setCell (Nat.le_refl _) _⟩
      case measure => simp [intOf]; omega
    · go_wp2
      go_ret
      have hkn : k = n := by omega
      subst hkn
      exact ⟨_, cs, qs, rfl, Nat.le_refl _, hblk, hpc.out, hbel⟩
theorem Cpd.rd {w : World} {g n : Nat} {cs : Array Value} {ps qs : List Pp} (h : Cpd w g n cs ps qs n) (hb : Blk w g 89 cs) : RdR w w.heap.size (some ⟨g, 0, none⟩) qs := h.2.2.1.rd h.1 hb h.2.2.2
theorem Cpd.same {w : World} {g n : Nat} {cs : Array Value} {ps qs : List Pp} (h : Cpd w g n cs ps qs n) (hn : ps.length = n) : rl qs = rl ps := by
  rw [h.2.1, List.take_of_length_le (by rw [rl_len]; omega)]

theorem eqReport_same (f a b : Int) (A C : Option Addr) (c d : Nat) (vs : List (Int × Int)) (w : World) (hr : Rd w w.heap.size A vs) (hs : Rd w w.heap.size C vs) (hn : vs.length ≤ 1048576) :
    Calls Try.prog 130 #[.agg #[.int .i64 f, .int .i64 a, .int .i64 b, .slice A vs.length c], .agg #[.int .i64 f, .int .i64 a, .int .i64 b, .slice C vs.length d]] w fun e w' => e = .returned (.bool true) ∧ Below w.heap.size w w' := by
  have hne : ∀ i : Int, (i != i) = false := fun i => by simp
  go_enter Try.func130, Try.ntmps130
  go_wp2_with fail
  refine (eqVote_is true a b a b (by simp) _).mono ?_
  rintro e w1 ⟨rfl, hb1⟩
  obtain ⟨hc1, hf1⟩ := bcell hb1
  have hz1a : w.heap.size + 1 < w1.heap.size := by have := hb1.size; simp at this; omega
  have hz1b : w.heap.size < w1.heap.size := by omega
  have hB1 : Below w.heap.size w w1 := Below.trans (((Below.refl _ _).alloc (Nat.le_refl _) _).alloc (by simp) _) (hb1.mono (by simp; omega))
  have hr1 : Rd w1 w1.heap.size A vs := (hr.below hB1).more hB1.size
  have hs1 : Rd w1 w1.heap.size C vs := (hs.below hB1).more hB1.size
  clear hb1 hr hs
  go_wp2_with fail
  refine (eqVoteS_same A C c d vs _ hr1 hs1 hn).mono ?_
  rintro e w2 ⟨rfl, hb2⟩
  have hB2 : Below w.heap.size w w2 := hB1.trans (hb2.mono hB1.size)
  go_wp2
  go_ret
  exact ⟨rfl, hB2⟩

set_option maxHeartbeats 800000 in
theorem eqReportS_same (A C : Option Addr) (c d : Nat) (ps qs : List Pp) (hpq : rl qs = rl ps) (w : World) (hr : RdR w w.heap.size A ps) (hs : RdR w w.heap.size C qs) (hn : ps.length ≤ 1048576) (hv : ∀ i, i < ps.length → (ps.getD i zP).r.vs.length ≤ 1048576) :
    Calls Try.prog 116 #[.slice A ps.length c, .slice C ps.length d] w fun e w' => e = .returned (.bool true) ∧ Below w.heap.size w w' := by
  have hlen : qs.length = ps.length := by rw [← rl_len, hpq, rl_len]
  have hel : ∀ k, (qs.getD k zP).r = (ps.getD k zP).r := fun k => by rw [← rl_at, hpq, rl_at]
  obtain ⟨n, hvn⟩ : ∃ n, ps.length = n := ⟨_, rfl⟩
  rw [hvn] at hn hv hlen ⊢
  have HVL := Lib.hid hv; clear hv
  have HV := Lib.hid hvn; clear hvn
  have HQ := Lib.hid hlen; clear hlen
  have HE := Lib.hid hel; clear hel hpq
  have hne : ∀ i : Int, (i != i) = false := fun i => by simp
  go_enter Try.func116, Try.ntmps116
  go_wp2
  go_loopw [5] (fun i wr => ∃ (k : Nat), k ≤ n ∧ i = .int .i64 k ∧ Below w.heap.size w wr) (fun i _ => n - (intOf i).toNat)
  case atStart => exact ⟨0, Nat.zero_le _, rfl, Below.refl _ _⟩
  case round =>
    obtain ⟨k, hk, rfl, hbel⟩ := hrel
    by_cases hlt : k < n
    · obtain ⟨b, off, rfl, hb, hc0, hc1, hc2, hc3, hrv⟩ := RdR.at_ (hr.below hbel) (k := k) (by rw [HV.out]; omega)
      obtain ⟨b', off', rfl, hb', hc0', hc1', hc2', hc3', hrv'⟩ := RdR.at_ (hs.below hbel) (k := k) (by rw [HQ.out]; omega)
      clear hr hs
      have hvl := HVL.out k hlt
      have he := HE.out k
      obtain ⟨⟨⟨f, v, x, vs⟩, A', c'⟩, hu⟩ : ∃ u, ps.getD k zP = u := ⟨_, rfl⟩
      obtain ⟨⟨⟨f', v', x', vs'⟩, A'', c''⟩, hu'⟩ : ∃ u, qs.getD k zP = u := ⟨_, rfl⟩
      rw [hu] at hc0 hc1 hc2 hc3 hrv hvl he
      rw [hu'] at hc0' hc1' hc2' hc3' hrv' he
      clear hu hu'
      simp only [Rp.mk.injEq] at he
      obtain ⟨rfl, rfl, rfl, rfl⟩ := he
      have HR1 := Lib.hid ((hrv.more hbel.size : Rd wr wr.heap.size A' vs')); clear hrv
      have HR2 := Lib.hid ((hrv'.more hbel.size : Rd wr wr.heap.size A'' vs')); clear hrv'
      go_wp2
      go_still_tail 8, (by kernel_rfl)
      have hbd : Below w.heap.size w wr.drew := hbel.drew
      have hd1 : Rd wr.drew wr.drew.heap.size A' vs' := HR1.out
      have hd2 : Rd wr.drew wr.drew.heap.size A'' vs' := HR2.out
      change wpList _ _ _ _ _ wr.drew
      generalize wr.drew = w2 at *
      go_wp2_with fail
      refine (eqReport_same _ _ _ _ _ _ _ _ _ hd1 hd2 hvl).mono ?_
      rintro e w1 ⟨rfl, hb1⟩
      go_wp2
      go_roundw
      case rel => exact ⟨k + 1, by omega, by go_num, hbd.trans (hb1.mono hbd.size)⟩
      case measure => simp [intOf]; omega
    · go_wp2
      go_ret
      exact ⟨rfl, hbel⟩
end Go.Proofs.Ytfdfjmibjnmhpaa.V

namespace Go.Proofs.Ytfdfjmibjnmhpaa.V
open Go.RowKit Go.Proofs.Ytfdfjmibjnmhpaa.B

theorem szReport_any (f a b : Int) (A : Option Addr) (n c : Nat) (left : Int) (w : World) (hn : n ≤ maxLen) (h0 : 0 ≤ left) (h1 : left ≤ 1048576) :
    Calls Try.prog 122 #[.agg #[.int .i64 f, .int .i64 a, .int .i64 b, .slice A n c], .int .i64 left] w fun e w' => e = .returned (.int .i64 (if left < n then -1 else left - n)) ∧ Below w.heap.size w w' := by
  by_cases h : left < n
  · have hc : ∀ W, Calls Try.prog 33 #[.slice A n c, .int .i64 left] W fun e w' => e = .returned (.int .i64 (-1)) ∧ W = w' := fun W => by
      have := sz_any A n c left W hn h0 h1
      rwa [if_pos h] at this
    have HC := Lib.hid hc; clear hc
    rw [if_pos h]
    go_enter Try.func122, Try.ntmps122
    go_wp2_with (go_at_call 33; refine (HC.out _).mono ?_; rintro e w1 ⟨rfl, rfl⟩)
    go_ret
    exact ⟨rfl, (Below.refl _ _).alloc (Nat.le_refl _) _⟩
  · have hc : ∀ W, Calls Try.prog 33 #[.slice A n c, .int .i64 left] W fun e w' => e = .returned (.int .i64 (left - n)) ∧ W = w' := fun W => by
      have := sz_any A n c left W hn h0 h1
      rwa [if_neg h] at this
    have HC := Lib.hid hc; clear hc
    rw [if_neg h]
    go_enter Try.func122, Try.ntmps122
    go_wp2_with (go_at_call 33; refine (HC.out _).mono ?_; rintro e w1 ⟨rfl, rfl⟩)
    go_ret
    exact ⟨rfl, (Below.refl _ _).alloc (Nat.le_refl _) _⟩

theorem ret_int2 {a b : Int} (h : a = b) : Ending.returned (.int .i64 a) = .returned (.int .i64 b) := by rw [h]
/-- How many votes the first k reports hold. -/
def tv (ps : List Pp) : Nat → Nat
  | 0 => 0
  | k + 1 => tv ps k + (ps.getD k zP).r.vs.length
theorem tv_mono (ps : List Pp) {i j : Nat} (h : i ≤ j) : tv ps i ≤ tv ps j := by
  induction j with
  | zero => obtain rfl : i = 0 := by omega
            exact Nat.le_refl _
  | succ j ih =>
    by_cases e : i = j + 1
    · subst e; exact Nat.le_refl _
    · have := ih (by omega)
      simp only [tv]; omega
theorem tv_one (ps : List Pp) {i j : Nat} (h : i < j) : (ps.getD i zP).r.vs.length ≤ tv ps j := by
  have := tv_mono ps (show i + 1 ≤ j by omega)
  simp only [tv] at this
  omega

set_option maxHeartbeats 800000 in
theorem szReportS_any (A : Option Addr) (c : Nat) (ps : List Pp) (left : Int) (w : World) (hr : RdR w w.heap.size A ps) (hn : ps.length ≤ maxLen) (hv : ∀ i, i < ps.length → (ps.getD i zP).r.vs.length ≤ maxLen) (h0 : 0 ≤ left) (h1 : left ≤ 1048576) :
    Calls Try.prog 102 #[.slice A ps.length c, .int .i64 left] w fun e w' => e = .returned (.int .i64 (if left < (ps.length : Int) + (tv ps ps.length : Int) then -1 else left - ps.length - tv ps ps.length)) ∧ Below w.heap.size w w' := by
  have hm := fun i => @tv_mono ps i ps.length
  obtain ⟨n, hvn⟩ : ∃ n, ps.length = n := ⟨_, rfl⟩
  rw [hvn] at hn hv hm ⊢
  unfold maxLen at hn
  have HM := Lib.hid hm; clear hm
  have HVL := Lib.hid hv; clear hv
  have HV := Lib.hid hvn; clear hvn
  obtain ⟨z, hz⟩ : ∃ z : Int, (if left < (n : Int) + (tv ps n : Int) then -1 else left - n - tv ps n) = z := ⟨_, rfl⟩
  rw [hz]
  have HZ := Lib.hid hz; clear hz
  by_cases hneg : left < n
  · have hz : z = -1 := by rw [← HZ.out, if_pos (by omega)]
    subst hz
    go_enter Try.func102, Try.ntmps102
    go_wp2
    go_ret
    exact ⟨rfl, Below.refl _ _⟩
  · have hnn : ¬ (left - n < 0) := by omega
    go_enter Try.func102, Try.ntmps102
    go_wp2
    go_loopw [1, 5] (fun l i wr => ∃ (k : Nat) (y : Int), k ≤ n ∧ i = .int .i64 k ∧ l = .int .i64 y ∧ 0 ≤ y ∧ y ≤ 1048576 ∧ Hid (y = left - n - tv ps k) ∧ Below w.heap.size w wr) (fun _ i _ => n - (intOf i).toNat)
    case atStart => exact ⟨0, left - n, Nat.zero_le _, rfl, rfl, by omega, by omega, by show _ = _; simp [tv], Below.refl _ _⟩
    case round =>
      obtain ⟨k, y, hk, rfl, rfl, hy0, hy1, hy, hbel⟩ := hrel
      by_cases hlt : k < n
      · obtain ⟨b, off, rfl, hb, hc0, hc1, hc2, hc3, hrv⟩ := RdR.at_ (hr.below hbel) (k := k) (by rw [HV.out]; omega)
        clear hr hrv
        have hvl := HVL.out k hlt
        have hst : tv ps (k + 1) = tv ps k + (ps.getD k zP).r.vs.length := rfl
        have hmm := HM.out (k + 1) (by omega)
        obtain ⟨⟨⟨f, v, x, vs⟩, A', c'⟩, hu⟩ : ∃ u, ps.getD k zP = u := ⟨_, rfl⟩
        rw [hu] at hc0 hc1 hc2 hc3 hvl hst
        simp only at hvl hst
        clear hu
        obtain ⟨m, hm⟩ : ∃ m, vs.length = m := ⟨_, rfl⟩
        simp only [hm] at hc3 hvl hst
        have HS : Hid (tv ps (k + 1) = tv ps k + m ∧ tv ps (k + 1) ≤ tv ps n) := ⟨hst, hmm⟩
        clear hst hmm hm
        unfold maxLen at hvl
        by_cases hs : y < m
        · have hcl := szReport_any f v x A' m c' y wr (by unfold maxLen; omega) hy0 hy1
          rw [if_pos hs] at hcl
          have HC := Lib.hid hcl; clear hcl
          go_wp2_with fail
          refine HC.out.mono ?_
          rintro e w1 ⟨rfl, hb1⟩
          go_wp2
          go_ret
          obtain ⟨h2, h3⟩ := HS.out
          have h4 := hy.out
          exact ⟨ret_int2 (by rw [← HZ.out, if_pos (by omega)]), hbel.trans (hb1.mono hbel.size)⟩
        · have hcl := szReport_any f v x A' m c' y wr (by unfold maxLen; omega) hy0 hy1
          rw [if_neg hs] at hcl
          have HC := Lib.hid hcl; clear hcl
          have hnn2 : ¬ (y - (m : Int) < 0) := by omega
          go_wp2_with fail
          refine HC.out.mono ?_
          rintro e w1 ⟨rfl, hb1⟩
          go_wp2
          go_roundw
          case rel =>
            refine ⟨k + 1, _, by omega, by go_num, rfl, by omega, by omega, ?_, hbel.trans (hb1.mono hbel.size)⟩
            have h2 := HS.out
            have h4 := hy.out
            show _ = _
            omega
          case measure => simp [intOf]; omega
      · go_wp2
        go_ret
        have hkn : k = n := by omega
        subst hkn
        have h4 := hy.out
        exact ⟨ret_int2 (by rw [← HZ.out, if_neg (by omega), ← h4]), hbel⟩
theorem szR_big (A : Option Addr) (c : Nat) (ps : List Pp) (w : World) (hr : RdR w w.heap.size A ps) (hn : ps.length ≤ maxLen) (hv : ∀ i, i < ps.length → (ps.getD i zP).r.vs.length ≤ maxLen) (h : (1048576 : Int) < (ps.length : Int) + (tv ps ps.length : Int)) :
    Calls Try.prog 102 #[.slice A ps.length c, .int .i64 1048576] w fun e w' => e = .returned (.int .i64 (-1)) ∧ Below w.heap.size w w' := by
  have := szReportS_any A c ps 1048576 w hr hn hv (by omega) (by omega)
  rwa [if_pos h] at this
theorem szR_small (A : Option Addr) (c : Nat) (ps : List Pp) (w : World) (hr : RdR w w.heap.size A ps) (h : ps.length + tv ps ps.length ≤ 1048576) :
    Calls Try.prog 102 #[.slice A ps.length c, .int .i64 1048576] w fun e w' => (∃ y : Int, 0 ≤ y ∧ y ≤ 1048576 ∧ y = 1048576 - ps.length - tv ps ps.length ∧ e = .returned (.int .i64 y)) ∧ Below w.heap.size w w' := by
  have := szReportS_any A c ps 1048576 w hr (by unfold maxLen; omega) (fun i hi => by have := tv_one ps hi; unfold maxLen; omega) (by omega) (by omega)
  rw [if_neg (by omega)] at this
  exact this.mono fun e w' ⟨he, hb⟩ => ⟨⟨_, by omega, by omega, rfl, he⟩, hb⟩
/-- What 'few' says of reports: they are copied and compared. -/
def Few (ps : List Pp) : Prop := ps.length ≤ 1048576 ∧ ∀ i, i < ps.length → (ps.getD i zP).r.vs.length ≤ 1048576
theorem few_of {ps : List Pp} (h : ps.length + tv ps ps.length ≤ 1048576) : Few ps := ⟨by omega, fun i hi => by have := tv_one ps hi; omega⟩
theorem Few.same {ps qs : List Pp} (h : Few ps) (e : rl qs = rl ps) : Few qs ∧ qs.length = ps.length := by
  have hl : qs.length = ps.length := by rw [← rl_len, e, rl_len]
  refine ⟨⟨by rw [hl]; exact h.1, fun i hi => ?_⟩, hl⟩
  have : (qs.getD i zP).r = (ps.getD i zP).r := by rw [← rl_at, e, rl_at]
  rw [this]
  exact h.2 i (by omega)
end Go.Proofs.Ytfdfjmibjnmhpaa.V

namespace Go.Proofs.Ytfdfjmibjnmhpaa.B
open Go.RowKit

/-- What was heard of a view, and where it lies. -/
structure Hp where
  v : Int
  ps : List Pp
  A : Option Addr
  c : Nat
def zH : Hp := ⟨0, [], none, 0⟩
instance : Inhabited Hp := ⟨zH⟩
/-- The data of it. -/
def hd1 (h : Hp) : Int × List Rp := (h.v, rl h.ps)
def hl (hs : List Hp) : List (Int × List Rp) := hs.map hd1
theorem hl_len (hs : List Hp) : (hl hs).length = hs.length := by simp [hl]
theorem hl_at (hs : List Hp) (k : Nat) : (hl hs).getD k (0, []) = hd1 (hs.getD k zH) := by
  simp only [hl, List.getD_eq_getElem?_getD, List.getElem?_map]
  cases hs[k]? <;> rfl

/-- A slice value at address A reads, below block Bd, as hs. -/
def RdH (w : World) (Bd : Nat) (A : Option Addr) (hs : List Hp) : Prop :=
  0 < hs.length → ∃ b off, A = some ⟨b, off, none⟩ ∧ b < Bd ∧ ∀ i, i < hs.length → (w.cell? ⟨b, off + i * 2, none⟩ = some (.int .i64 (hs.getD i zH).v) ∧ w.cell? ⟨b, off + i * 2 + 1, none⟩ = some (.slice (hs.getD i zH).A (hs.getD i zH).ps.length (hs.getD i zH).c)) ∧ RdR w Bd (hs.getD i zH).A (hs.getD i zH).ps
section
variable {w w' : World} {Bd Bd' : Nat} {A : Option Addr} {hs : List Hp}
theorem RdH.keep (h : RdH w Bd A hs) (hk : ∀ b o, b < Bd → w'.cell? ⟨b, o, none⟩ = w.cell? ⟨b, o, none⟩) : RdH w' Bd A hs := fun hn => by
  obtain ⟨b, off, e, hb, hc⟩ := h hn
  exact ⟨b, off, e, hb, fun i hi => ⟨⟨(hk _ _ hb).trans (hc i hi).1.1, (hk _ _ hb).trans (hc i hi).1.2⟩, (hc i hi).2.keep hk⟩⟩
theorem RdH.more (h : RdH w Bd A hs) (hB : Bd ≤ Bd') : RdH w Bd' A hs := fun hn => by
  obtain ⟨b, off, e, hb, hc⟩ := h hn
  exact ⟨b, off, e, by omega, fun i hi => ⟨(hc i hi).1, (hc i hi).2.more hB⟩⟩
theorem RdH.below (h : RdH w Bd A hs) (hb : Below Bd w w') : RdH w' Bd A hs := h.keep fun _ _ hp => hb.cell hp
theorem RdH.alloc (h : RdH w Bd A hs) (hB : Bd ≤ w.heap.size) (o : Obj) : RdH (w.alloc o) Bd A hs := h.keep fun b o' hp => World.cell?_alloc_lt w o ⟨b, o', none⟩ (by simpa using (show b < w.heap.size by omega))
theorem RdH.on (h : RdH w w.heap.size A hs) (hb : Below w.heap.size w w') : RdH w' w'.heap.size A hs := (h.below hb).more hb.size
theorem RdH.up (h : RdH w w.heap.size A hs) (O : Obj) : RdH (w.alloc O) (w.alloc O).heap.size A hs := (h.alloc (Nat.le_refl _) O).more (by simp)
theorem RdH.dr (h : RdH w w.heap.size A hs) : RdH w.drew w.drew.heap.size A hs := h
theorem RdH.nil_ : RdH w Bd A [] := fun h => absurd h (by simp)
theorem RdH.at_ (h : RdH w Bd A hs) {k : Nat} (hk : k < hs.length) : ∃ b off, A = some ⟨b, off, none⟩ ∧ b < Bd ∧ w.cell? ⟨b, off + k * 2, none⟩ = some (.int .i64 (hs.getD k zH).v) ∧ w.cell? ⟨b, off + k * 2 + 1, none⟩ = some (.slice (hs.getD k zH).A (hs.getD k zH).ps.length (hs.getD k zH).c) ∧ RdR w Bd (hs.getD k zH).A (hs.getD k zH).ps := by
  obtain ⟨b, off, rfl, hb, hc⟩ := h (by omega)
  exact ⟨b, off, rfl, hb, (hc k hk).1.1, (hc k hk).1.2, (hc k hk).2⟩
end

/-- A row of numbers, s an element, in a block of its own from lo on. -/
def OwnL (s : Nat) (w : World) (lo : Nat) (A : Option Addr) (n : Nat) : Prop :=
  0 < n → ∃ (t : TypeId) (g : Nat) (cs : Array Value), A = some ⟨g, 0, none⟩ ∧ lo ≤ g ∧ Blk w g t cs ∧ n * s ≤ cs.size ∧ ∀ i, i < n * s → ∃ x : Int, cs[i]? = some (.int .i64 x)
theorem OwnL.keep {s : Nat} {w w' : World} {lo n : Nat} {A : Option Addr} (h : OwnL s w lo A n) (hk : ∀ g, lo ≤ g → g < w.heap.size → w'.heap[g]? = w.heap[g]?) : OwnL s w' lo A n := fun h0 => by
  obtain ⟨t, g, cs, e, hg, hb, r⟩ := h h0
  exact ⟨t, g, cs, e, hg, (hk g hg hb.lt).trans hb, r⟩
theorem OwnL.low {s : Nat} {w : World} {lo lo' n : Nat} {A : Option Addr} (h : OwnL s w lo A n) (hl : lo' ≤ lo) : OwnL s w lo' A n := fun h0 => by
  obtain ⟨t, g, cs, e, hg, r⟩ := h h0
  exact ⟨t, g, cs, e, by omega, r⟩
theorem PC.own {w : World} {t : TypeId} {g lo : Nat} {cs : Array Value} {vs : List (Int × Int)} (h : PC cs vs vs.length) (hb : Blk w g t cs) (hl : lo ≤ g) : OwnL 2 w lo (some ⟨g, 0, none⟩) vs.length := fun _ =>
  ⟨t, g, cs, rfl, hl, hb, by rw [h.1]; omega, fun i hi => by
    have := h.2 (i / 2) (by omega)
    rcases (by omega : i = i / 2 * 2 ∨ i = i / 2 * 2 + 1) with e | e <;> rw [e]
    · exact ⟨_, this.1⟩
    · exact ⟨_, this.2⟩⟩
/-- Reports in a block of their own from lo on, their votes behind it. -/
def OwnR (w : World) (lo : Nat) (A : Option Addr) (ps : List Pp) : Prop :=
  0 < ps.length → ∃ (t tv : TypeId) (g : Nat) (cs : Array Value), A = some ⟨g, 0, none⟩ ∧ lo ≤ g ∧ Blk w g t cs ∧ PCR cs ps ps.length ps.length ∧ Vb w tv (g + 1) ps
theorem OwnR.keep {w w' : World} {lo : Nat} {A : Option Addr} {ps : List Pp} (h : OwnR w lo A ps) (hk : ∀ g, lo ≤ g → g < w.heap.size → w'.heap[g]? = w.heap[g]?) : OwnR w' lo A ps := fun h0 => by
  obtain ⟨t, tv, g, cs, e, hg, hb, hc, hv⟩ := h h0
  exact ⟨t, tv, g, cs, e, hg, (hk g hg hb.lt).trans hb, hc, hv.keep fun g' h1 h2 => hk g' (by omega) h2⟩
theorem OwnR.low {w : World} {lo lo' : Nat} {A : Option Addr} {ps : List Pp} (h : OwnR w lo A ps) (hl : lo' ≤ lo) : OwnR w lo' A ps := fun h0 => by
  obtain ⟨t, tv, g, cs, e, hg, r⟩ := h h0
  exact ⟨t, tv, g, cs, e, by omega, r⟩
/-- A reading of reports that turns on no block below lo. -/
def HiR0 (w : World) (lo : Nat) (A : Option Addr) (ps : List Pp) : Prop :=
  ∀ w' : World, (∀ b o, lo ≤ b → b < w.heap.size → w'.cell? ⟨b, o, none⟩ = w.cell? ⟨b, o, none⟩) → RdR w' w.heap.size A ps
theorem HiR0.keep {w w1 : World} {lo : Nat} {A : Option Addr} {ps : List Pp} (h : HiR0 w lo A ps) (hs : w.heap.size ≤ w1.heap.size) (hk : ∀ b o, lo ≤ b → b < w.heap.size → w1.cell? ⟨b, o, none⟩ = w.cell? ⟨b, o, none⟩) : HiR0 w1 lo A ps := fun w' h' =>
  (h w' fun b o h1 h2 => (h' b o h1 (by omega)).trans (hk b o h1 h2)).more hs
/-- Such a reading, of rows that are their own. -/
def HiR (w : World) (lo : Nat) (A : Option Addr) (ps : List Pp) : Prop := HiR0 w lo A ps ∧ OwnR w lo A ps
theorem HiR.rd {w : World} {lo : Nat} {A : Option Addr} {ps : List Pp} (h : HiR w lo A ps) : RdR w w.heap.size A ps := h.1 w fun _ _ _ _ => rfl
theorem HiR.on {w w1 : World} {lo : Nat} {A : Option Addr} {ps : List Pp} (h : HiR w lo A ps) (hb : Below w.heap.size w w1) : HiR w1 lo A ps := ⟨h.1.keep hb.size fun b o _ h2 => hb.cell (p := ⟨b, o, none⟩) h2, h.2.keep fun g _ h2 => hb.block g h2⟩
theorem HiR.set_ {w : World} {lo : Nat} {A : Option Addr} {ps : List Pp} (h : HiR w lo A ps) {p : Addr} (hp : p.block < lo) (u : Value) : HiR (w.setCell p u) lo A ps :=
  ⟨h.1.keep (by simp [World.setCell]) fun b o h1 _ => World.cell?_setCell_other w p ⟨b, o, none⟩ u (fun e => by subst e; simp at hp; omega), h.2.keep fun g h1 _ => Below.heap_setCell w p u g (by omega)⟩
theorem HiR.low {w : World} {lo lo' : Nat} {A : Option Addr} {ps : List Pp} (h : HiR w lo A ps) (hl : lo' ≤ lo) : HiR w lo' A ps := ⟨fun w' h' => h.1 w' fun b o h1 h2 => h' b o (by omega) h2, h.2.low hl⟩
theorem HiR.nil_ {w : World} {lo : Nat} {A : Option Addr} : HiR w lo A [] := ⟨fun _ _ => RdR.nil_, fun h => absurd h (by simp)⟩
theorem PCR.hi {w : World} {t tv : TypeId} {g lo n : Nat} {cs : Array Value} {qs : List Pp} (h : PCR cs qs n n) (hq : qs.length = n) (hb : Blk w g t cs) (hv : Vb w tv (g + 1) qs) (hl : lo ≤ g) : HiR w lo (some ⟨g, 0, none⟩) qs := ⟨fun w' hk _ => by
  obtain ⟨gs, h1, h2⟩ := hv
  refine ⟨g, 0, rfl, hb.lt, fun i hi => ⟨?_, ?_⟩⟩
  · have := h.2 i (by omega)
    simp only [Nat.zero_add, hk g _ hl hb.lt, hb.cell]
    exact this
  · obtain ⟨a1, a2, a3, cs', a4, a5⟩ := h1 i hi
    rw [a2]
    have := a5.rd (Bd := w.heap.size) a4 a4.lt
    intro h0
    obtain ⟨b, off, e, hb', hc⟩ := this h0
    injection e with e
    injection e with e1 e2
    subst e1 e2
    refine ⟨_, _, rfl, hb', fun i hi => ?_⟩
    rw [hk _ _ (by omega) hb', hk _ _ (by omega) hb']
    exact hc i hi, fun _ => ⟨t, tv, g, cs, rfl, hl, hb, by rw [hq]; exact h, hv⟩⟩

/-- Two cells an element. -/
theorem twoSet {cs : Array Value} {k : Nat} {a b : Value} (hs : k * 2 + 1 < cs.size) (i : Nat) :
    ((cs.setIfInBounds (k * 2) a).setIfInBounds (k * 2 + 1) b)[i * 2]? = (if i = k then some a else cs[i * 2]?) ∧ ((cs.setIfInBounds (k * 2) a).setIfInBounds (k * 2 + 1) b)[i * 2 + 1]? = (if i = k then some b else cs[i * 2 + 1]?) := by
  by_cases e : i = k
  · subst e
    simp only [if_true]
    exact ⟨by rw [Array.getElem?_setIfInBounds_ne (by omega), Array.getElem?_setIfInBounds_self_of_lt (by omega)], by rw [Array.getElem?_setIfInBounds_self_of_lt (by simp; omega)]⟩
  · simp only [if_neg e]
    exact ⟨by rw [Array.getElem?_setIfInBounds_ne (by omega), Array.getElem?_setIfInBounds_ne (by omega)], by rw [Array.getElem?_setIfInBounds_ne (by omega), Array.getElem?_setIfInBounds_ne (by omega)]⟩

/-- The first k of n, copied to the block g. -/
def CpH (w : World) (g n : Nat) (cs : Array Value) (hs qs : List Hp) (k : Nat) : Prop :=
  qs.length = k ∧ hl qs = (hl hs).take k ∧ cs.size = n * 2 ∧ ∀ i, i < k → (cs[i * 2]? = some (.int .i64 (qs.getD i zH).v) ∧ cs[i * 2 + 1]? = some (.slice (qs.getD i zH).A (qs.getD i zH).ps.length (qs.getD i zH).c)) ∧ HiR w (g + 1) (qs.getD i zH).A (qs.getD i zH).ps
theorem CpH.zero {w : World} {g n : Nat} {cs : Array Value} {hs : List Hp} (h : cs.size = n * 2) : CpH w g n cs hs [] 0 := ⟨rfl, by simp [hl], h, fun i hi => absurd hi (by omega)⟩
theorem CpH.step {wr w1 : World} {g n : Nat} {cs : Array Value} {hs qs : List Hp} {k : Nat} (h : CpH wr g n cs hs qs k) (hk : k < n) (hn : hs.length = n) (v : Int) (ps us : List Pp) (A : Option Addr) (c : Nat)
    (hu : hd1 (hs.getD k zH) = (v, rl us)) (hb : Below wr.heap.size wr w1) (hg : HiR w1 (g + 1) A us) :
    CpH ((w1.setCell ⟨g, k * 2, none⟩ (.int .i64 v)).setCell ⟨g, k * 2 + 1, none⟩ (.slice A us.length c)) g n ((cs.setIfInBounds (k * 2) (.int .i64 v)).setIfInBounds (k * 2 + 1) (.slice A us.length c)) hs (qs ++ [⟨v, us, A, c⟩]) (k + 1) := by
  obtain ⟨h1, h2, h3, h4⟩ := h
  refine ⟨by simp [h1], ?_, by simpa using h3, fun i hi => ?_⟩
  · rw [take_getD (hl hs) (0, []) k (by rw [hl_len]; omega), hl_at, hu, ← h2]
    simp [hl, hd1]
  · have h5 := twoSet (a := .int .i64 v) (b := .slice A us.length c) (show k * 2 + 1 < cs.size by omega) i
    rw [h5.1, h5.2]
    by_cases e : i = k
    · subst e
      rw [getD_app_end h1, if_pos rfl, if_pos rfl]
      exact ⟨⟨rfl, rfl⟩, (hg.set_ (by simp) _).set_ (by simp) _⟩
    · rw [getD_app_lt (by omega), if_neg e, if_neg e]
      exact ⟨(h4 i (by omega)).1, (((h4 i (by omega)).2.on hb).set_ (by simp) _).set_ (by simp) _⟩
theorem CpH.rd {w : World} {t : TypeId} {g n : Nat} {cs : Array Value} {hs qs : List Hp} (h : CpH w g n cs hs qs n) (hb : Blk w g t cs) : RdH w w.heap.size (some ⟨g, 0, none⟩) qs := fun _ =>
  ⟨g, 0, rfl, hb.lt, fun i hi => ⟨by
    have := (h.2.2.2 i (by rw [h.1] at hi; exact hi)).1
    rw [Nat.zero_add, hb.cell, hb.cell]
    exact this, (h.2.2.2 i (by rw [h.1] at hi; exact hi)).2.rd⟩⟩
/-- What was heard, in a block of its own from lo on, the reports behind it. -/
def OwnH (w : World) (lo : Nat) (A : Option Addr) (hs : List Hp) : Prop :=
  0 < hs.length → ∃ (t : TypeId) (g : Nat) (cs : Array Value), A = some ⟨g, 0, none⟩ ∧ lo ≤ g ∧ Blk w g t cs ∧ cs.size = hs.length * 2 ∧ ∀ i, i < hs.length → (cs[i * 2]? = some (.int .i64 (hs.getD i zH).v) ∧ cs[i * 2 + 1]? = some (.slice (hs.getD i zH).A (hs.getD i zH).ps.length (hs.getD i zH).c)) ∧ OwnR w lo (hs.getD i zH).A (hs.getD i zH).ps
theorem OwnH.keep {w w' : World} {lo : Nat} {A : Option Addr} {hs : List Hp} (h : OwnH w lo A hs) (hk : ∀ g, lo ≤ g → g < w.heap.size → w'.heap[g]? = w.heap[g]?) : OwnH w' lo A hs := fun h0 => by
  obtain ⟨t, g, cs, e, hg, hb, hz, hc⟩ := h h0
  exact ⟨t, g, cs, e, hg, (hk g hg hb.lt).trans hb, hz, fun i hi => ⟨(hc i hi).1, (hc i hi).2.keep hk⟩⟩
theorem OwnH.low {w : World} {lo lo' : Nat} {A : Option Addr} {hs : List Hp} (h : OwnH w lo A hs) (hl : lo' ≤ lo) : OwnH w lo' A hs := fun h0 => by
  obtain ⟨t, g, cs, e, hg, hb, hz, hc⟩ := h h0
  exact ⟨t, g, cs, e, by omega, hb, hz, fun i hi => ⟨(hc i hi).1, (hc i hi).2.low hl⟩⟩
theorem CpH.same {w : World} {g n : Nat} {cs : Array Value} {hs qs : List Hp} (h : CpH w g n cs hs qs n) (hn : hs.length = n) : hl qs = hl hs := by
  rw [h.2.1, List.take_of_length_le (by rw [hl_len]; omega)]
end Go.Proofs.Ytfdfjmibjnmhpaa.B

namespace Go.Proofs.Ytfdfjmibjnmhpaa.V
open Go.RowKit Go.Proofs.Ytfdfjmibjnmhpaa.B
/-- How much the first k of hs hold. -/
def th (hs : List Hp) : Nat → Nat
  | 0 => 0
  | k + 1 => th hs k + ((hs.getD k zH).ps.length + tv (hs.getD k zH).ps (hs.getD k zH).ps.length)
theorem th_mono (hs : List Hp) {i j : Nat} (h : i ≤ j) : th hs i ≤ th hs j := by
  induction j with
  | zero => obtain rfl : i = 0 := by omega
            exact Nat.le_refl _
  | succ j ih =>
    by_cases e : i = j + 1
    · subst e; exact Nat.le_refl _
    · have := ih (by omega)
      simp only [th]; omega
theorem th_one (hs : List Hp) {i j : Nat} (h : i < j) : (hs.getD i zH).ps.length + tv (hs.getD i zH).ps (hs.getD i zH).ps.length ≤ th hs j := by
  have := th_mono hs (show i + 1 ≤ j by omega)
  simp only [th] at this
  omega
/-- All lengths are ones that memory can hold. -/
def Lens (hs : List Hp) : Prop := hs.length ≤ maxLen ∧ ∀ i, i < hs.length → (hs.getD i zH).ps.length ≤ maxLen ∧ ∀ j, j < (hs.getD i zH).ps.length → ((hs.getD i zH).ps.getD j zP).r.vs.length ≤ maxLen
/-- What 'few' says of what was heard. -/
def FewH (hs : List Hp) : Prop := hs.length ≤ 1048576 ∧ ∀ i, i < hs.length → Few (hs.getD i zH).ps
theorem fewH_of {hs : List Hp} (h : hs.length + th hs hs.length ≤ 1048576) : FewH hs := ⟨by omega, fun i hi => few_of (by have := th_one hs hi; omega)⟩
theorem FewH.same {hs qs : List Hp} (h : FewH hs) (e : hl qs = hl hs) : FewH qs ∧ qs.length = hs.length := by
  have hl' : qs.length = hs.length := by rw [← hl_len, e, hl_len]
  refine ⟨⟨by rw [hl']; exact h.1, fun i hi => ?_⟩, hl'⟩
  have : hd1 (qs.getD i zH) = hd1 (hs.getD i zH) := by rw [← hl_at, e, hl_at]
  exact ((h.2 i (by omega)).same (Prod.mk.inj this).2).1

theorem szHeard_any (v : Int) (A : Option Addr) (c : Nat) (ps : List Pp) (left : Int) (w : World) (hr : RdR w w.heap.size A ps) (hn : ps.length ≤ maxLen) (hv : ∀ i, i < ps.length → (ps.getD i zP).r.vs.length ≤ maxLen) (h0 : 0 ≤ left) (h1 : left ≤ 1048576) :
    Calls Try.prog 69 #[.agg #[.int .i64 v, .slice A ps.length c], .int .i64 left] w fun e w' => e = .returned (.int .i64 (if left < (ps.length : Int) + (tv ps ps.length : Int) then -1 else left - ps.length - tv ps ps.length)) ∧ Below w.heap.size w w' := by
  have hr1 := hr.up (.cells #[.int .i64 v, .slice A ps.length c] 113)
  have hc := szReportS_any A c ps left _ hr1 hn hv h0 h1
  obtain ⟨n, hvn⟩ : ∃ n, ps.length = n := ⟨_, rfl⟩
  obtain ⟨m, hvm⟩ : ∃ m, tv ps ps.length = m := ⟨_, rfl⟩
  rw [hvm] at hc ⊢
  rw [hvn] at hc ⊢
  rw [hvn] at hn hr1
  clear hr1 hr hv hvn hvm
  unfold maxLen at hn
  by_cases h : left < (n : Int) + (m : Int)
  · rw [if_pos h] at hc ⊢
    have HC := Lib.hid hc; clear hc
    go_enter Try.func69, Try.ntmps69
    go_wp2_with fail
    refine HC.out.mono ?_
    rintro e w1 ⟨rfl, hb1⟩
    have hB := on_ (up_ (Below.refl w.heap.size w) _) hb1
    clear hb1
    go_wp2
    go_ret
    exact ⟨rfl, hB⟩
  · rw [if_neg h] at hc ⊢
    obtain ⟨z, hz⟩ : ∃ z : Int, left - n - m = z := ⟨_, rfl⟩
    rw [hz] at hc ⊢
    have hz0 : 0 ≤ z := by omega
    have hz1 : z ≤ 1048576 := by omega
    have HC := Lib.hid hc; clear hc hz
    go_enter Try.func69, Try.ntmps69
    go_wp2_with fail
    refine HC.out.mono ?_
    rintro e w1 ⟨rfl, hb1⟩
    have hB := on_ (up_ (Below.refl w.heap.size w) _) hb1
    clear hb1
    go_wp2
    go_ret
    exact ⟨rfl, hB⟩

set_option maxHeartbeats 800000 in
theorem szHeardS_any (A : Option Addr) (c : Nat) (hs : List Hp) (left : Int) (w : World) (hr : RdH w w.heap.size A hs) (hL : Lens hs) (h0 : 0 ≤ left) (h1 : left ≤ 1048576) :
    Calls Try.prog 35 #[.slice A hs.length c, .int .i64 left] w fun e w' => e = .returned (.int .i64 (if left < (hs.length : Int) + (th hs hs.length : Int) then -1 else left - hs.length - th hs hs.length)) ∧ Below w.heap.size w w' := by
  obtain ⟨hn, hv⟩ := hL
  have hm := fun i => @th_mono hs i hs.length
  obtain ⟨n, hvn⟩ : ∃ n, hs.length = n := ⟨_, rfl⟩
  rw [hvn] at hn hv hm ⊢
  unfold maxLen at hn
  have HM := Lib.hid hm; clear hm
  have HVL := Lib.hid hv; clear hv
  have HV := Lib.hid hvn; clear hvn
  obtain ⟨z, hz⟩ : ∃ z : Int, (if left < (n : Int) + (th hs n : Int) then -1 else left - n - th hs n) = z := ⟨_, rfl⟩
  rw [hz]
  have HZ := Lib.hid hz; clear hz
  by_cases hneg : left < n
  · have hz : z = -1 := by rw [← HZ.out, if_pos (by omega)]
    subst hz
    go_enter Try.func35, Try.ntmps35
    go_wp2
    go_ret
    exact ⟨rfl, Below.refl _ _⟩
  · have hnn : ¬ (left - n < 0) := by omega
    go_enter Try.func35, Try.ntmps35
    go_wp2
    go_loopw [1, 5] (fun l i wr => ∃ (k : Nat) (y : Int), k ≤ n ∧ i = .int .i64 k ∧ l = .int .i64 y ∧ 0 ≤ y ∧ y ≤ 1048576 ∧ Hid (y = left - n - th hs k) ∧ Below w.heap.size w wr) (fun _ i _ => n - (intOf i).toNat)
    case atStart => exact ⟨0, left - n, Nat.zero_le _, rfl, rfl, by omega, by omega, by show _ = _; simp [th], Below.refl _ _⟩
    case round =>
      obtain ⟨k, y, hk, rfl, rfl, hy0, hy1, hy, hbel⟩ := hrel
      by_cases hlt : k < n
      · obtain ⟨b, off, rfl, hb, hc0, hc1, hrv⟩ := RdH.at_ (hr.below hbel) (k := k) (by rw [HV.out]; omega)
        clear hr
        have hvl := HVL.out k hlt
        have hst : th hs (k + 1) = th hs k + ((hs.getD k zH).ps.length + tv (hs.getD k zH).ps (hs.getD k zH).ps.length) := rfl
        have hmm := HM.out (k + 1) (by omega)
        obtain ⟨⟨v, ps, A', c'⟩, hu⟩ : ∃ u, hs.getD k zH = u := ⟨_, rfl⟩
        rw [hu] at hc0 hc1 hvl hst hrv
        simp only at hvl hst hc0 hc1 hrv
        clear hu
        have hcl := szHeard_any v A' c' ps y wr (hrv.more hbel.size) hvl.1 hvl.2 hy0 hy1
        obtain ⟨m, hm⟩ : ∃ m, tv ps ps.length = m := ⟨_, rfl⟩
        rw [hm] at hcl hst
        obtain ⟨q, hq⟩ : ∃ q, ps.length = q := ⟨_, rfl⟩
        have hql := hvl.1
        rw [hq] at hcl hst hc1 hql
        have HS : Hid (th hs (k + 1) = th hs k + (q + m) ∧ th hs (k + 1) ≤ th hs n) := ⟨hst, hmm⟩
        clear hst hmm hm hvl hrv hq
        unfold maxLen at hql
        by_cases hsm : y < (q : Int) + (m : Int)
        · rw [if_pos hsm] at hcl
          have HC := Lib.hid hcl; clear hcl
          go_wp2_with fail
          refine HC.out.mono ?_
          rintro e w1 ⟨rfl, hb1⟩
          go_wp2
          go_ret
          obtain ⟨h2, h3⟩ := HS.out
          have h4 := hy.out
          exact ⟨ret_int2 (by rw [← HZ.out, if_pos (by omega)]), hbel.trans (hb1.mono hbel.size)⟩
        · rw [if_neg hsm] at hcl
          obtain ⟨z2, hz2⟩ : ∃ z : Int, y - q - m = z := ⟨_, rfl⟩
          rw [hz2] at hcl
          have HC := Lib.hid hcl; clear hcl
          have hz20 : 0 ≤ z2 := by omega
          have hz21 : z2 ≤ 1048576 := by omega
          have hnn2 : ¬ (z2 < 0) := by omega
          have HZ2 := Lib.hid hz2; clear hz2
          go_wp2_with fail
          refine HC.out.mono ?_
          rintro e w1 ⟨rfl, hb1⟩
          go_wp2
          go_roundw
          case rel =>
            refine ⟨k + 1, _, by omega, by go_num, rfl, hz20, hz21, ?_, hbel.trans (hb1.mono hbel.size)⟩
            have h2 := HS.out
            have h4 := hy.out
            have h5 := HZ2.out
            show _ = _
            omega
          case measure => simp [intOf]; omega
      · go_wp2
        go_ret
        have hkn : k = n := by omega
        subst hkn
        have h4 := hy.out
        exact ⟨ret_int2 (by rw [← HZ.out, if_neg (by omega), ← h4]), hbel⟩
end Go.Proofs.Ytfdfjmibjnmhpaa.V

namespace Go.Proofs.Ytfdfjmibjnmhpaa.V
open Go.RowKit Go.Proofs.Ytfdfjmibjnmhpaa.B

set_option maxHeartbeats 400000 in
theorem toHeard_any (v : Int) (A : Option Addr) (c : Nat) (ps : List Pp) (w : World) (hr : RdR w w.heap.size A ps) (hf : Few ps) :
    Calls Try.prog 79 #[.agg #[.int .i64 v, .slice A ps.length c]] w fun e w' =>
      ∃ g qs, e = .returned (.agg #[.int .i64 v, .slice (some ⟨g, 0, none⟩) qs.length qs.length]) ∧ rl qs = rl ps ∧ HiR w' w.heap.size (some ⟨g, 0, none⟩) qs ∧ Below w.heap.size w w' := by
  have hr3 := ((hr.up (.cells #[.int .i64 v, .slice A ps.length c] 113)).up (.cells #[.int .i64 0, .slice none 0 0] 122)).up (.cells #[.int .i64 v, .slice none 0 0] 122)
  have ko := Blk.new ((w.alloc (.cells #[.int .i64 v, .slice A ps.length c] 113)).alloc (.cells #[.int .i64 0, .slice none 0 0] 122)) 122 #[.int .i64 v, .slice none 0 0]
  have kr := (Blk.new (w.alloc (.cells #[.int .i64 v, .slice A ps.length c] 113)) 122 #[.int .i64 0, .slice none 0 0]).alloc (.cells #[.int .i64 v, .slice none 0 0] 122)
  simp only [World.size_alloc] at ko kr
  have HT := Lib.hid (toReportS_any A c ps _ hr3 hf.1 hf.2)
  clear hr3 hr hf
  go_enter Try.func79, Try.ntmps79
  go_wp2_with fail
  refine HT.out.mono ?_
  rintro e w1 ⟨g, cs, qs, rfl, hg, hk, hp, hb1⟩
  have ko1 := ko.on hb1
  have kr1 := kr.on hb1
  have hB1 := on_ (up_ (up_ (up_ (Below.refl w.heap.size w) _) _) _) hb1
  have hs1 := hb1.size
  simp only [World.size_alloc] at hs1 hg
  have hsame := hp.same rfl
  have hql : qs.length = ps.length := hp.1
  have HP := Lib.hid (hp.2.2.1.hi hql hk hp.2.2.2 (show w.heap.size + 3 ≤ g by omega)); clear hp hk hb1 ko kr HT
  have HQ := Lib.hid hsame; clear hsame
  obtain ⟨m, hm⟩ : ∃ m, ps.length = m := ⟨_, rfl⟩
  rw [hm] at hql ⊢
  have HL := Lib.hid hql; clear hql hm
  have ro1 := ko1.rule
  have fo1 := fun i => ko1.frozen i
  have ko2 : Blk (w1.setCell ⟨w.heap.size + 1 + 1, 1, none⟩ (.slice (some ⟨g, 0, none⟩) m m)) (w.heap.size + 1 + 1) 122 #[.int .i64 v, .slice (some ⟨g, 0, none⟩) m m] := ko1.set_ 1 _
  have kr2 := kr1.far (p := ⟨w.heap.size + 1 + 1, 1, none⟩) (by simp) (.slice (some ⟨g, 0, none⟩) m m)
  have ro2 := ko2.rule
  have rr2 := kr2.rule
  have fr2 := fun i => kr2.frozen i
  have kr3 : Blk ((w1.setCell ⟨w.heap.size + 1 + 1, 1, none⟩ (.slice (some ⟨g, 0, none⟩) m m)).setCell ⟨w.heap.size + 1, 0, none⟩ (.int .i64 v)) (w.heap.size + 1) 122 #[.int .i64 v, .slice none 0 0] := kr2.set_ 0 _
  have rr3 := kr3.rule
  have fr3 := fun i => kr3.frozen i
  have kr4 : Blk (((w1.setCell ⟨w.heap.size + 1 + 1, 1, none⟩ (.slice (some ⟨g, 0, none⟩) m m)).setCell ⟨w.heap.size + 1, 0, none⟩ (.int .i64 v)).setCell ⟨w.heap.size + 1, 1, none⟩ (.slice (some ⟨g, 0, none⟩) m m)) (w.heap.size + 1) 122 #[.int .i64 v, .slice (some ⟨g, 0, none⟩) m m] := kr3.set_ 1 _
  have rr4 := kr4.rule
  go_wp2
  refine bodyPost_ret (v := .agg #[.int .i64 v, .slice (some ⟨g, 0, none⟩) m m]) (by simp [results, Try.results79, go_sem, rr4]) rfl ⟨g, qs, by rw [HL.out], HQ.out, ?_, ?_⟩
  · exact (((HP.out.set_ (by simp <;> omega) _).set_ (by simp <;> omega) _).set_ (by simp <;> omega) _).low (by omega)
  · iterate 3 refine Below.setCell ?_ (by simp <;> omega) _
    exact hB1

theorem infoH : (Try.prog.info? 122).map (fun i => (i.zero, i.size, i.bytes)) = some (some (.agg #[.int .i64 0, .slice none 0 0]), 2, 32) := by kernel_rfl

set_option maxHeartbeats 800000 in
theorem toHeardS_any (A : Option Addr) (c : Nat) (hs : List Hp) (w : World) (hr : RdH w w.heap.size A hs) (hf : FewH hs) :
    Calls Try.prog 41 #[.slice A hs.length c] w fun e w' => ∃ g cs qs, e = .returned (.slice (some ⟨g, 0, none⟩) hs.length hs.length) ∧ w.heap.size ≤ g ∧ Blk w' g 122 cs ∧ CpH w' g hs.length cs hs qs hs.length ∧ Below w.heap.size w w' := by
  obtain ⟨i0, hi, hz0, hz1, hz2⟩ := info_parts infoH
  obtain ⟨hn, hv⟩ := hf
  have hmk : ∀ u : World, (Instr.makeSlice 38 (.int .i64 (hs.length : Int)) (.int .i64 (hs.length : Int))).run Try.prog u =
      .ok (.slice (some ⟨u.heap.size, 0, none⟩) hs.length hs.length) (u.alloc (.cells (madeCells #[.int .i64 0, .slice none 0 0] (hs.length * 2)) 122)) := fun u => by
    have h := run_make_rowN (P := Try.prog) 38 122 i0 (.agg #[.int .i64 0, .slice none 0 0]) Try.underlying38 hi hz0 .i64 .i64 hs.length hs.length (Nat.le_refl _) (by rw [hz2]; omega) (by omega) u
    rw [h, hz1]; rfl
  clear hz2 hz1 hz0 hi
  obtain ⟨n, hvn⟩ : ∃ n, hs.length = n := ⟨_, rfl⟩
  rw [hvn] at hn hmk hv ⊢
  have HVL := Lib.hid hv; clear hv
  go_enter Try.func41, Try.ntmps41
  go_wp2
  have HV := Lib.hid hvn; clear hvn
  go_loopw [4] (fun i wr => ∃ (k : Nat) (cs : Array Value) (qs : List Hp), k ≤ n ∧ i = .int .i64 k ∧ Blk wr w.heap.size 122 cs ∧ Hid (CpH wr w.heap.size n cs hs qs k) ∧ Below w.heap.size w wr) (fun i _ => n - (intOf i).toNat)
  case atStart => exact ⟨0, _, [], Nat.zero_le _, rfl, Blk.new _ _ _, CpH.zero (by simp [madeCells]), (Below.refl _ _).alloc (Nat.le_refl _) _⟩
  case round =>
    obtain ⟨k, cs, qs, hk, rfl, hblk, hpc, hbel⟩ := hrel
    by_cases hlt : k < n
    · obtain ⟨b, off, rfl, hb, hc0, hc1, hrv⟩ := RdH.at_ (hr.below hbel) (k := k) (by rw [HV.out]; omega)
      clear hr
      have hvl := HVL.out k hlt
      have hsz : cs.size = n * 2 := hpc.out.2.2.1
      obtain ⟨x0, hx0⟩ : ∃ x, cs[k * 2]? = some x := ⟨_, Array.getElem?_eq_getElem (by omega)⟩
      obtain ⟨x1, hx1⟩ : ∃ x, cs[k * 2 + 1]? = some x := ⟨_, Array.getElem?_eq_getElem (by omega)⟩
      have HX0 := Lib.hid hx0
      have HX1 := Lib.hid hx1
      clear hsz hx0 hx1
      obtain ⟨⟨v, ps, A', c'⟩, hu⟩ : ∃ u, hs.getD k zH = u := ⟨_, rfl⟩
      rw [hu] at hc0 hc1 hrv hvl
      simp only at hc0 hc1 hrv hvl
      have HU := Lib.hid hu; clear hu
      have HRV := Lib.hid ((hrv.more hbel.size : RdR wr wr.heap.size A' ps)); clear hrv
      have HVV := Lib.hid hvl; clear hvl
      have hgl : w.heap.size < wr.heap.size := hblk.lt
      go_wp2_with fail
      refine (toHeard_any v A' c' ps _ HRV.out HVV.out).mono ?_
      rintro e w1 ⟨g1, us, rfl, he1, hh1, hb1⟩
      have hblk1 := hblk.on hb1
      have hf0 := hblk1.frozen (k * 2)
      have hf1 := hblk1.frozen (k * 2 + 1)
      have hy0 := (hblk1.cell (k * 2)).trans HX0.out
      have hy1 := (hblk1.cell (k * 2 + 1)).trans HX1.out
      have HC := Lib.hid (CpH.step hpc.out hlt HV.out v ps us (some ⟨g1, 0, none⟩) us.length (by rw [HU.out]; show (v, rl ps) = _; rw [he1]) hb1 (hh1.low (by omega)))
      have hB1 := hbel.trans (hb1.mono hbel.size)
      clear hh1 hb1 he1 hpc
      go_wp2
      go_roundw
      case rel =>
        refine ⟨k + 1, _, _, by omega, by go_num, (hblk1.set_ _ _).set_ _ _, HC, (hB1.setCell (Nat.le_refl _) _).setCell (Nat.le_refl _) _⟩
      case measure => simp [intOf]; omega
    · go_wp2
      go_ret
      have hkn : k = n := by omega
      subst hkn
      exact ⟨_, cs, qs, rfl, Nat.le_refl _, hblk, hpc.out, hbel⟩

theorem eqHeard_same (v : Int) (A C : Option Addr) (c d : Nat) (ps qs : List Pp) (hpq : rl qs = rl ps) (w : World) (hr : RdR w w.heap.size A ps) (hs : RdR w w.heap.size C qs) (hf : Few ps) :
    Calls Try.prog 91 #[.agg #[.int .i64 v, .slice A ps.length c], .agg #[.int .i64 v, .slice C ps.length d]] w fun e w' => e = .returned (.bool true) ∧ Below w.heap.size w w' := by
  have hr2 := (hr.up (.cells #[.int .i64 v, .slice A ps.length c] 122)).up (.cells #[.int .i64 v, .slice C ps.length d] 122)
  have hs2 := (hs.up (.cells #[.int .i64 v, .slice A ps.length c] 122)).up (.cells #[.int .i64 v, .slice C ps.length d] 122)
  have HE := Lib.hid (eqReportS_same A C c d ps qs hpq _ hr2 hs2 hf.1 hf.2)
  clear hr2 hs2 hr hs
  have hne : ∀ i : Int, (i != i) = false := fun i => by simp
  go_enter Try.func91, Try.ntmps91
  go_wp2_with fail
  refine HE.out.mono ?_
  rintro e w1 ⟨rfl, hb1⟩
  have hB1 := on_ (up_ (up_ (Below.refl w.heap.size w) _) _) hb1
  clear hb1
  go_wp2
  go_ret
  exact ⟨rfl, hB1⟩

set_option maxHeartbeats 800000 in
theorem eqHeardS_same (A C : Option Addr) (c d : Nat) (hs us : List Hp) (hpq : hl us = hl hs) (w : World) (hr : RdH w w.heap.size A hs) (hq : RdH w w.heap.size C us) (hf : FewH hs) :
    Calls Try.prog 47 #[.slice A hs.length c, .slice C hs.length d] w fun e w' => e = .returned (.bool true) ∧ Below w.heap.size w w' := by
  have hlen : us.length = hs.length := by rw [← hl_len, hpq, hl_len]
  have hel : ∀ k, hd1 (us.getD k zH) = hd1 (hs.getD k zH) := fun k => by rw [← hl_at, hpq, hl_at]
  obtain ⟨hn, hv⟩ := hf
  obtain ⟨n, hvn⟩ : ∃ n, hs.length = n := ⟨_, rfl⟩
  rw [hvn] at hn hv hlen ⊢
  have HVL := Lib.hid hv; clear hv
  have HV := Lib.hid hvn; clear hvn
  have HQ := Lib.hid hlen; clear hlen
  have HE := Lib.hid hel; clear hel hpq
  go_enter Try.func47, Try.ntmps47
  have hne : ∀ i : Int, (i != i) = false := fun i => by simp
  go_wp2
  go_loopw [5] (fun i wr => ∃ (k : Nat), k ≤ n ∧ i = .int .i64 k ∧ Below w.heap.size w wr) (fun i _ => n - (intOf i).toNat)
  case atStart => exact ⟨0, Nat.zero_le _, rfl, Below.refl _ _⟩
  case round =>
    obtain ⟨k, hk, rfl, hbel⟩ := hrel
    by_cases hlt : k < n
    · obtain ⟨b, off, rfl, hb, hc0, hc1, hrv⟩ := RdH.at_ (hr.below hbel) (k := k) (by rw [HV.out]; omega)
      obtain ⟨b', off', rfl, hb', hc0', hc1', hrv'⟩ := RdH.at_ (hq.below hbel) (k := k) (by rw [HQ.out]; omega)
      clear hr hq
      have hvl := HVL.out k hlt
      have he := HE.out k
      obtain ⟨⟨v, ps, A', c'⟩, hu⟩ : ∃ u, hs.getD k zH = u := ⟨_, rfl⟩
      obtain ⟨⟨v', ps', A'', c''⟩, hu'⟩ : ∃ u, us.getD k zH = u := ⟨_, rfl⟩
      rw [hu] at hc0 hc1 hrv hvl he
      rw [hu'] at hc0' hc1' hrv' he
      clear hu hu'
      simp only at hc0 hc1 hrv hvl hc0' hc1' hrv'
      simp only [hd1, Prod.mk.injEq] at he
      obtain ⟨rfl, he2⟩ := he
      have hll : ps'.length = ps.length := by rw [← rl_len, he2, rl_len]
      rw [hll] at hc1'
      have HR1 := Lib.hid ((hrv.more hbel.size : RdR wr wr.heap.size A' ps)); clear hrv
      have HR2 := Lib.hid ((hrv'.more hbel.size : RdR wr wr.heap.size A'' ps')); clear hrv'
      have HE2 := Lib.hid he2; clear he2 hll
      have HVV := Lib.hid hvl; clear hvl
      go_wp2
      go_still_tail 8, (by kernel_rfl)
      have hbd : Below w.heap.size w wr.drew := hbel.drew
      have hd1 : RdR wr.drew wr.drew.heap.size A' ps := HR1.out
      have hd2 : RdR wr.drew wr.drew.heap.size A'' ps' := HR2.out
      change wpList _ _ _ _ _ wr.drew
      generalize wr.drew = w2 at *
      go_wp2_with fail
      refine (eqHeard_same _ _ _ _ _ _ _ HE2.out _ hd1 hd2 HVV.out).mono ?_
      rintro e w1 ⟨rfl, hb1⟩
      go_wp2
      go_roundw
      case rel => exact ⟨k + 1, by omega, by go_num, hbd.trans (hb1.mono hbd.size)⟩
      case measure => simp [intOf]; omega
    · go_wp2
      go_ret
      exact ⟨rfl, hbel⟩
end Go.Proofs.Ytfdfjmibjnmhpaa.V
