/-
  The program's set of reports, as it is made: contracts. No statement is proved here.
-/
import Derived.Test.YtcfjmhebhhekbaaImplSet
import Derived.BigRegion
set_option linter.unusedVariables false
set_option maxRecDepth 100000
namespace Go.Proofs.Ytcfjmhebhhekbaa.V
open Go.RowKit Go.Proofs.Ytcfjmhebhhekbaa.B

def sl (ps : List Pp) (j : Nat) : Option Pp := ps.find? fun p => decide (p.r.f = (j : Int))
def updS (s : Nat → Option Pp) (j : Nat) (p : Pp) : Nat → Option Pp := fun i => if i = j then some p else s i
theorem sl_step {ps : List Pp} {k : Nat} (h : k < ps.length) {j : Nat} (hj : (ps.getD k zP).r.f = (j : Int)) (hn : sl (ps.take k) j = none) : sl (ps.take (k + 1)) = updS (sl (ps.take k)) j (ps.getD k zP) := by
  funext i
  rw [take_getD ps zP k h]
  unfold sl updS at *
  rw [List.find?_append]
  by_cases e : i = j
  · subst e
    rw [hn, if_pos rfl, List.find?_cons_of_pos (by rw [decide_eq_true_eq, hj])]
    rfl
  · rw [if_neg e, List.find?_cons_of_neg (by rw [decide_eq_true_eq, hj]; omega)]
    simp
theorem good_at {n view : Int} {rs : List Rp} (h : allR n view rs = true) (k : Nat) (hk : k < rs.length) : goodR n view rs k = true := List.all_eq_true.1 h k (List.mem_range.2 hk)
theorem rep_at {n view : Int} {rs : List Rp} (h : allR n view rs = true) (k : Nat) (hk : k < rs.length) : repB n view (rs.getD k zR) = true := by
  have := good_at h k hk
  unfold goodR at this
  simp only [Bool.and_eq_true] at this
  exact this.1
theorem asc_at {n view : Int} {rs : List Rp} (h : allR n view rs = true) (i j : Nat) (hij : i < j) (hj : j < rs.length) : (rs.getD i zR).f < (rs.getD j zR).f := by
  induction j with
  | zero => omega
  | succ j ih =>
    have h1 : (rs.getD j zR).f < (rs.getD (j + 1) zR).f := by
      have := good_at h (j + 1) hj
      unfold goodR at this
      simp at this
      exact this.2
    by_cases e : i = j
    · subst e; exact h1
    · have := ih (by omega) (by omega)
      omega
theorem in_at {n view : Int} {rs : List Rp} (h : allR n view rs = true) (k : Nat) (hk : k < rs.length) : 0 ≤ (rs.getD k zR).f ∧ (rs.getD k zR).f < n := by
  have := rep_at h k hk
  unfold repB inB at this
  simp only [Bool.and_eq_true, decide_eq_true_eq] at this
  exact this.1
theorem fresh_at {n view : Int} {ps : List Pp} (h : allR n view (rl ps) = true) (k : Nat) (hk : k < ps.length) {j : Nat} (hj : (ps.getD k zP).r.f = (j : Int)) : sl (ps.take k) j = none := by
  unfold sl
  rw [List.find?_eq_none]
  intro x hx
  obtain ⟨i, hi, rfl⟩ := List.mem_take_iff_getElem.1 hx
  have := asc_at h i k (by omega) (by rw [rl_len]; exact hk)
  rw [rl_at, rl_at, hj] at this
  have e : ps.getD i zP = ps[i] := by simp [List.getD_eq_getElem?_getD, List.getElem?_eq_getElem (show i < ps.length by omega)]
  rw [e] at this
  rw [decide_eq_true_eq]
  omega

theorem SetC.put {cs : Array Value} {n view : Int} {s : Nat → Option Pp} (h : SetC cs n view s) {j : Nat} (hj : j < 7) (f v x : Int) (vs : List (Int × Int)) (A : Option Addr) (c : Nat) :
    SetC (((((cs.setIfInBounds (2 + j) (.bool true)).setIfInBounds (9 + j * 4) (.int .i64 f)).setIfInBounds (9 + j * 4 + 1) (.int .i64 v)).setIfInBounds (9 + j * 4 + 2) (.int .i64 x)).setIfInBounds (9 + j * 4 + 3) (.slice A vs.length c)) n view (updS s j ⟨⟨f, v, x, vs⟩, A, c⟩) := by
  obtain ⟨h0, h1, h2, h3, h4⟩ := h
  refine ⟨by simpa using h0, ?_, ?_, fun i hi => ?_, fun i hi => ?_⟩
  · rw [Array.getElem?_setIfInBounds_ne (by omega), Array.getElem?_setIfInBounds_ne (by omega), Array.getElem?_setIfInBounds_ne (by omega), Array.getElem?_setIfInBounds_ne (by omega), Array.getElem?_setIfInBounds_ne (by omega)]; exact h1
  · rw [Array.getElem?_setIfInBounds_ne (by omega), Array.getElem?_setIfInBounds_ne (by omega), Array.getElem?_setIfInBounds_ne (by omega), Array.getElem?_setIfInBounds_ne (by omega), Array.getElem?_setIfInBounds_ne (by omega)]; exact h2
  · rw [Array.getElem?_setIfInBounds_ne (by omega), Array.getElem?_setIfInBounds_ne (by omega), Array.getElem?_setIfInBounds_ne (by omega), Array.getElem?_setIfInBounds_ne (by omega)]
    by_cases e : i = j
    · subst e
      rw [Array.getElem?_setIfInBounds_self_of_lt (by omega)]
      simp [updS]
    · rw [Array.getElem?_setIfInBounds_ne (by omega), h3 i hi]
      simp [updS, e]
  · have key : ∀ d, d < 4 → (((((cs.setIfInBounds (2 + j) (.bool true)).setIfInBounds (9 + j * 4) (.int .i64 f)).setIfInBounds (9 + j * 4 + 1) (.int .i64 v)).setIfInBounds (9 + j * 4 + 2) (.int .i64 x)).setIfInBounds (9 + j * 4 + 3) (.slice A vs.length c))[9 + i * 4 + d]? = if i = j then (if d = 0 then some (.int .i64 f) else if d = 1 then some (.int .i64 v) else if d = 2 then some (.int .i64 x) else some (.slice A vs.length c)) else cs[9 + i * 4 + d]? := by
      intro d hd
      by_cases e : i = j
      · subst e
        rw [if_pos rfl]
        rcases (by omega : d = 0 ∨ d = 1 ∨ d = 2 ∨ d = 3) with rfl | rfl | rfl | rfl
        · rw [Array.getElem?_setIfInBounds_ne (by omega), Array.getElem?_setIfInBounds_ne (by omega), Array.getElem?_setIfInBounds_ne (by omega)]
          simp only [Nat.add_zero]
          rw [Array.getElem?_setIfInBounds_self_of_lt (by simp; omega)]; rfl
        · rw [Array.getElem?_setIfInBounds_ne (by omega), Array.getElem?_setIfInBounds_ne (by omega), Array.getElem?_setIfInBounds_self_of_lt (by simp; omega)]; rfl
        · rw [Array.getElem?_setIfInBounds_ne (by omega), Array.getElem?_setIfInBounds_self_of_lt (by simp; omega)]; rfl
        · rw [Array.getElem?_setIfInBounds_self_of_lt (by simp; omega)]; rfl
      · rw [if_neg e, Array.getElem?_setIfInBounds_ne (by omega), Array.getElem?_setIfInBounds_ne (by omega), Array.getElem?_setIfInBounds_ne (by omega), Array.getElem?_setIfInBounds_ne (by omega), Array.getElem?_setIfInBounds_ne (by omega)]
    by_cases e : i = j
    · subst e
      rw [show (updS s i ⟨⟨f, v, x, vs⟩, A, c⟩ i).getD zP = ⟨⟨f, v, x, vs⟩, A, c⟩ by simp [updS]]
      exact ⟨(key 0 (by omega)).trans (by simp), (key 1 (by omega)).trans (by simp), (key 2 (by omega)).trans (by simp), (key 3 (by omega)).trans (by simp)⟩
    · rw [show (updS s j ⟨⟨f, v, x, vs⟩, A, c⟩ i).getD zP = (s i).getD zP by simp [updS, e]]
      obtain ⟨k0, k1, k2, k3⟩ := h4 i hi
      exact ⟨(key 0 (by omega)).trans (by rw [if_neg e]; exact k0), (key 1 (by omega)).trans (by rw [if_neg e]; exact k1), (key 2 (by omega)).trans (by rw [if_neg e]; exact k2), (key 3 (by omega)).trans (by rw [if_neg e]; exact k3)⟩

set_option maxHeartbeats 1600000 in
theorem add_new (b j : Nat) (n view f v x : Int) (A : Option Addr) (c : Nat) (vs : List (Int × Int)) (s : Nat → Option Pp) (cs : Array Value) (w : World) (hk : Blk w b 81 cs) (hcs : SetC cs n view s) (hj : j < 7) (hn : s j = none) :
    Calls Try.prog 44 #[.pointer (some ⟨b, 2, none⟩), .int .i64 j, .agg #[.int .i64 f, .int .i64 v, .int .i64 x, .slice A vs.length c]] w fun e w' => e = .returned (.bool true) ∧ (∃ cs', Blk w' b 81 cs' ∧ SetC cs' n view (updS s j ⟨⟨f, v, x, vs⟩, A, c⟩)) ∧ Below b w w' := by
  have hput := hcs.put hj f v x vs A c
  obtain ⟨h37, _, _, hcb, hci⟩ := hcs
  have hb := hcb j hj
  rw [hn] at hb
  obtain ⟨i0, i1, i2, i3⟩ := hci j hj
  simp only [Option.isSome_none, Nat.add_zero] at hb i0 i1 i2 i3
  obtain ⟨l, hl⟩ : ∃ l, vs.length = l := ⟨_, rfl⟩
  rw [hl] at hput ⊢
  have HP := Lib.hid hput
  clear hput hcb hci hl h37
  obtain ⟨w0, hw0⟩ : ∃ w0, w.alloc (.cells #[.int .i64 f, .int .i64 v, .int .i64 x, .slice A l c] 28) = w0 := ⟨_, rfl⟩
  have kb0 : Blk w0 b 81 cs := by rw [← hw0]; exact hk.alloc _
  have kx0 : Blk w0 w.heap.size 28 #[.int .i64 f, .int .i64 v, .int .i64 x, .slice A l c] := by rw [← hw0]; exact Blk.new _ _ _
  have hB0 : Below b w w0 := by rw [← hw0]; exact (Below.refl _ _).alloc (Nat.le_of_lt hk.lt) _
  have hlt : b < w.heap.size := hk.lt
  have hlt0 : w.heap.size < w0.heap.size := kx0.lt
  have rb := kb0.rule
  have c1 := (rb _).trans hb
  have c2 := (rb _).trans i0
  have c3 := (rb _).trans i1
  have c4 := (rb _).trans i2
  have c5 := (rb _).trans i3
  have fr := fun i => kb0.frozen i
  have rx := kx0.rule
  have HB0 := Lib.hid hB0
  have HKB := Lib.hid kb0
  have hne : w.heap.size ≠ b := by omega
  have hne' : b ≠ w.heap.size := by omega
  have a1 : (0 : Int) ≤ (j : Int) := by omega
  have a2 : (j : Int) < 7 := by omega
  clear hb i0 i1 i2 i3 rb hB0 kb0 kx0 hk hn
  have HW0 := Lib.hid hw0
  go_enter Try.func44, Try.ntmps44
  go_wp2_with fail
  have kb1 := HKB.out.set_ (2 + j) (.bool true)
  have kx1 : Blk (w0.setCell ⟨b, 2 + j, none⟩ (.bool true)) w.heap.size 28 #[.int .i64 f, .int .i64 v, .int .i64 x, .slice A l c] := by
    rw [← HW0.out]
    exact (Blk.new w 28 _).far (p := ⟨b, 2 + j, none⟩) (by simpa using hne) _
  have hB1 : Below b w (w0.setCell ⟨b, 2 + j, none⟩ (.bool true)) := HB0.out.setCell (Nat.le_refl _) _
  have e2 : (cs.setIfInBounds (2 + j) (.bool true))[9 + j * 4]? = cs[9 + j * 4]? := Array.getElem?_setIfInBounds_ne (by omega)
  have e3 : (cs.setIfInBounds (2 + j) (.bool true))[9 + j * 4 + 1]? = cs[9 + j * 4 + 1]? := Array.getElem?_setIfInBounds_ne (by omega)
  have e4 : (cs.setIfInBounds (2 + j) (.bool true))[9 + j * 4 + 2]? = cs[9 + j * 4 + 2]? := Array.getElem?_setIfInBounds_ne (by omega)
  have e5 : (cs.setIfInBounds (2 + j) (.bool true))[9 + j * 4 + 3]? = cs[9 + j * 4 + 3]? := Array.getElem?_setIfInBounds_ne (by omega)
  have kb0 := HKB.out
  rw [kb0.cell] at c2 c3 c4 c5
  have d2 := (kb1.cell _).trans (e2.trans c2)
  have d3 := (kb1.cell _).trans (e3.trans c3)
  have d4 := (kb1.cell _).trans (e4.trans c4)
  have d5 := (kb1.cell _).trans (e5.trans c5)
  clear c1 c2 c3 c4 c5 e2 e3 e4 e5 fr rx hw0 HW0 HKB HB0 hlt0 kb0
  generalize w0.setCell ⟨b, 2 + j, none⟩ (.bool true) = w1 at *
  have fr := fun i => kb1.frozen i
  have rx := kx1.rule
  have hx0 := rx 0
  have hx1 := rx 1
  have hx2 := rx 2
  have hx3 := rx 3
  have HK1 := Lib.hid kb1
  have HB1 := Lib.hid hB1
  clear kb1 kx1 hB1 w0
  go_region
  all_goals
    go_wp2
    go_ret
    exact ⟨rfl, ⟨_, (((HK1.out.set_ _ _).set_ _ _).set_ _ _).set_ _ _, HP.out⟩, ((((HB1.out.setCell (p := ⟨b, 9 + j * 4, none⟩) (Nat.le_refl _) _).setCell (p := ⟨b, 9 + j * 4 + 1, none⟩) (Nat.le_refl _) _).setCell (p := ⟨b, 9 + j * 4 + 2, none⟩) (Nat.le_refl _) _).setCell (p := ⟨b, 9 + j * 4 + 3, none⟩) (Nat.le_refl _) _).drew⟩

theorem set_zero (n view : Int) : SetC #[.int .i64 n, .int .i64 view, .bool false, .bool false, .bool false, .bool false, .bool false, .bool false, .bool false, .int .i64 0, .int .i64 0, .int .i64 0, .slice none 0 0, .int .i64 0, .int .i64 0, .int .i64 0, .slice none 0 0, .int .i64 0, .int .i64 0, .int .i64 0, .slice none 0 0, .int .i64 0, .int .i64 0, .int .i64 0, .slice none 0 0, .int .i64 0, .int .i64 0, .int .i64 0, .slice none 0 0, .int .i64 0, .int .i64 0, .int .i64 0, .slice none 0 0, .int .i64 0, .int .i64 0, .int .i64 0, .slice none 0 0] n view (fun _ => none) := by
  refine ⟨rfl, rfl, rfl, fun j hj => ?_, fun j hj => ?_⟩
  · rcases (by omega : j = 0 ∨ j = 1 ∨ j = 2 ∨ j = 3 ∨ j = 4 ∨ j = 5 ∨ j = 6) with rfl | rfl | rfl | rfl | rfl | rfl | rfl <;> rfl
  · rcases (by omega : j = 0 ∨ j = 1 ∨ j = 2 ∨ j = 3 ∨ j = 4 ∨ j = 5 ∨ j = 6) with rfl | rfl | rfl | rfl | rfl | rfl | rfl <;> exact ⟨rfl, rfl, rfl, rfl⟩
/-- A set made of the reports ps, behind w. -/
def OfR (n view : Int) (ps : List Pp) (w : World) (e : Ending) (w' : World) : Prop := ∃ b, e = .returned (.tuple #[.pointer (some ⟨b, 0, none⟩), .bool true]) ∧ w.heap.size ≤ b ∧ SetAt w' b n view (sl ps) ∧ Below w.heap.size w w'

set_option maxHeartbeats 3200000 in
theorem reportsOf_yes (n view : Int) (A : Option Addr) (c : Nat) (ps : List Pp) (hq : repsOkB n view (rl ps) = true) (w : World) (hr : RdR w w.heap.size A ps) (hf : Few ps) :
    Calls Try.prog 42 #[.int .i64 n, .int .i64 view, .slice A ps.length c] w (OfR n view ps w) := by
  have HOK := Lib.hid (implReportsOk_is true n view A c ps hq w hr hf)
  obtain ⟨hs, hw⟩ := reps_size hq
  have hall : allR n view (rl ps) = true := by unfold repsOkB at hq; simp only [Bool.and_eq_true] at hq; exact hq.1
  have hn7 : n ≤ 7 := by rcases size_two hs with rfl | rfl <;> omega
  have HIN : Hid (∀ k, k < ps.length → ∃ j : Nat, j < 7 ∧ (ps.getD k zP).r.f = (j : Int) ∧ sl (ps.take k) j = none) := by
    show ∀ k, _
    intro k hk
    have h1 := in_at hall k (by rw [rl_len]; exact hk)
    rw [rl_at] at h1
    exact ⟨(ps.getD k zP).r.f.toNat, by omega, by omega, fresh_at hall k hk (by omega)⟩
  have HST := Lib.hid (fun (k : Nat) (h : k < ps.length) (j : Nat) (hj : (ps.getD k zP).r.f = (j : Int)) (hn : sl (ps.take k) j = none) => sl_step h hj hn)
  have HZ := Lib.hid (set_zero n view)
  clear hq hs hw hall hn7
  obtain ⟨hn, hv⟩ := hf
  obtain ⟨m, hvm⟩ : ∃ m, ps.length = m := ⟨_, rfl⟩
  rw [hvm] at hn hv HOK HIN HST ⊢
  have HVL := Lib.hid hv; clear hv
  have HV := Lib.hid hvm; clear hvm
  have HR := Lib.hid hr; clear hr
  go_enter Try.func42, Try.ntmps42
  go_wp2_with fail
  refine HOK.out.mono ?_
  rintro e w1 ⟨rfl, hb1⟩
  have hr1 := Lib.hid (HR.out.on hb1)
  have HB1 := Lib.hid hb1
  clear hb1 HR HOK
  have HR := hr1; clear hr1
  go_wp2
  go_loopw [22] (fun i wr => ∃ (k : Nat) (cs : Array Value), k ≤ m ∧ i = .int .i64 k ∧ Blk wr w1.heap.size 81 cs ∧ Hid (SetC cs n view (sl (ps.take k))) ∧ Below w1.heap.size w1 wr) (fun i _ => m - (intOf i).toNat)
  case atStart => exact ⟨0, _, Nat.zero_le _, rfl, Blk.new _ _ _, HZ.out, (Below.refl _ _).alloc (Nat.le_refl _) _⟩
  case round =>
    obtain ⟨k, cs, hk, rfl, hblk, hset, hbel⟩ := hrel
    by_cases hlt : k < m
    · obtain ⟨b, off, rfl, hb, hc0, hc1, hc2, hc3, hrv⟩ := RdR.at_ (HR.out.below hbel) (k := k) (by rw [HV.out]; omega)
      obtain ⟨j, hj7, hjf, hjn⟩ := HIN.out k hlt
      have hst := HST.out k hlt j hjf hjn
      obtain ⟨⟨⟨f, v, x, vs⟩, A', c'⟩, hu⟩ : ∃ u, ps.getD k zP = u := ⟨_, rfl⟩
      rw [hu] at hc0 hc1 hc2 hc3 hjf hst
      simp only at hc0 hc1 hc2 hc3 hjf
      subst hjf
      clear hu hrv
      have HST1 := Lib.hid hst
      have HJN := Lib.hid hjn
      have hlr : w1.heap.size < wr.heap.size := hblk.lt
      clear hst hjn
      have kbx : Blk (wr.alloc (.cells #[.int .i64 j, .int .i64 v, .int .i64 x, .slice A' vs.length c'] 28)) w1.heap.size 81 cs := hblk.alloc _
      have kxx : Blk (wr.alloc (.cells #[.int .i64 j, .int .i64 v, .int .i64 x, .slice A' vs.length c'] 28)) wr.heap.size 28 #[.int .i64 j, .int .i64 v, .int .i64 x, .slice A' vs.length c'] := Blk.new _ _ _
      have hbx : Below w1.heap.size w1 (wr.alloc (.cells #[.int .i64 j, .int .i64 v, .int .i64 x, .slice A' vs.length c'] 28)) := hbel.alloc (Nat.le_of_lt hlr) _
      have HKX := Lib.hid kbx
      have HXX := Lib.hid kxx
      have HBX := Lib.hid hbx
      clear kbx hbx kxx
      go_wp2_with fail
      have kbx := HKX.out
      have hbx := HBX.out
      have kxx := HXX.out
      clear HKX HBX HXX hc0 hc1 hc2 hc3
      generalize wr.alloc (.cells #[.int .i64 j, .int .i64 v, .int .i64 x, .slice A' vs.length c'] 28) = w2 at *
      have rxx := kxx.rule
      have rx0 := rxx 0; have rx1 := rxx 1; have rx2 := rxx 2; have rx3 := rxx 3
      have HKX := Lib.hid kbx
      have HBX := Lib.hid hbx
      clear kbx hbx kxx
      go_still_tail 6, (by kernel_rfl)
      have kbx : Blk w2.drew w1.heap.size 81 cs := HKX.out
      have hbx : Below w1.heap.size w1 w2.drew := HBX.out.drew
      clear HKX HBX rxx rx0 rx1 rx2 rx3
      change wpList _ _ _ _ _ w2.drew
      generalize w2.drew = w4 at *
      go_wp2_with fail
      refine (add_new _ j n view _ _ _ _ _ vs _ cs _ kbx hset.out hj7 HJN.out).mono ?_
      rintro e w3 ⟨rfl, ⟨cs', hk3, hs3⟩, hb3⟩
      have HS3 := Lib.hid hs3
      clear hs3
      go_wp2
      go_roundw
      case rel => exact ⟨k + 1, cs', by omega, by go_num, hk3, by show SetC _ _ _ _; rw [HST1.out]; exact HS3.out, hbx.trans hb3⟩
      case measure => simp [intOf]; omega
    · have hkm : k = m := by omega
      subst hkm
      have HS : Hid (OfR n view ps w (.returned (.tuple #[.pointer (some ⟨w1.heap.size, 0, none⟩), .bool true])) wr) := by
        refine ⟨w1.heap.size, rfl, HB1.out.size, ⟨⟨cs, hblk, ?_⟩, fun j p hp => ?_⟩, HB1.out.trans (hbel.mono HB1.out.size)⟩
        · have := hset.out
          rwa [List.take_of_length_le (by rw [HV.out]; omega)] at this
        · have hm : p ∈ ps := List.mem_of_find?_eq_some hp
          obtain ⟨i, hi, rfl⟩ := List.mem_iff_getElem.1 hm
          have e : ps.getD i zP = ps[i] := by simp [List.getD_eq_getElem?_getD, List.getElem?_eq_getElem hi]
          have h2 := HVL.out i (by rw [← HV.out]; exact hi)
          rw [e] at h2
          obtain ⟨_, _, _, _, _, _, _, _, hrv⟩ := RdR.at_ (HR.out.below hbel) (k := i) hi
          rw [e] at hrv
          exact ⟨hrv.more hbel.size, h2⟩
      go_wp2
      go_ret2
      exact HS.out
theorem reportsOf_no (n view : Int) (A : Option Addr) (c : Nat) (ps : List Pp) (hq : repsOkB n view (rl ps) = false) (w : World) (hr : RdR w w.heap.size A ps) (hf : Few ps) :
    Calls Try.prog 42 #[.int .i64 n, .int .i64 view, .slice A ps.length c] w fun e w' => e = .returned (.tuple #[.pointer none, .bool false]) ∧ Below w.heap.size w w' := by
  have HOK := Lib.hid (implReportsOk_is false n view A c ps hq w hr hf)
  clear hq hr
  go_enter Try.func42, Try.ntmps42
  go_wp2_with fail
  refine HOK.out.mono ?_
  rintro e w1 ⟨rfl, hb1⟩
  go_wp2
  go_ret2
  exact ⟨rfl, hb1⟩
end Go.Proofs.Ytcfjmhebhhekbaa.V
