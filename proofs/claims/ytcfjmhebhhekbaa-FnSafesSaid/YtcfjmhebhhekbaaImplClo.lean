/-
  The tests that the program counts reports with, each a closure: contracts. No statement is proved here.
-/
import Derived.Test.YtcfjmhebhhekbaaSpecTop
set_option linter.unusedVariables false
set_option maxRecDepth 100000
namespace Go.Proofs.Ytcfjmhebhhekbaa.V
open Go.RowKit Go.Proofs.Ytcfjmhebhhekbaa.B

def voteP (val from_ : Int) (p : Int × Int) : Bool := decide (p.2 = val) && decide (from_ ≤ p.1)
theorem hasV_any (val from_ : Int) (r : Rp) : hasV val from_ r = r.vs.any (voteP val from_) := rfl

def IdxR (z : Bool) (w : World) (e : Ending) (w' : World) : Prop := (∃ y : Int, -1 ≤ y ∧ y ≤ 1048576 ∧ decide (0 ≤ y) = z ∧ e = Ending.returned (.int .i64 y)) ∧ Below w.heap.size w w'

theorem clo_vote (va vb val from_ : Int) (pv pf : Nat) (w : World) (hv : w.cell? ⟨pv, 0, none⟩ = some (.int .i64 val)) (hf : w.cell? ⟨pf, 0, none⟩ = some (.int .i64 from_)) :
    Calls Try.prog 91 #[.agg #[.int .i64 va, .int .i64 vb], .pointer (some ⟨pv, 0, none⟩), .pointer (some ⟨pf, 0, none⟩)] w fun e w' => e = .returned (.bool (voteP val from_ (va, vb))) ∧ Below w.heap.size w w' := by
  have kv := World.block_lt_of_cell? w _ hv
  have kf := World.block_lt_of_cell? w _ hf
  simp only at kv kf
  have hv0 : (w.alloc (.cells #[.int .i64 va, .int .i64 vb] 25)).cell? ⟨pv, 0, none⟩ = some (.int .i64 val) := (World.cell?_alloc_lt w _ ⟨pv, 0, none⟩ kv).trans hv
  have hf0 : (w.alloc (.cells #[.int .i64 va, .int .i64 vb] 25)).cell? ⟨pf, 0, none⟩ = some (.int .i64 from_) := (World.cell?_alloc_lt w _ ⟨pf, 0, none⟩ kf).trans hf
  unfold voteP
  by_cases h1 : vb = val
  · subst h1
    by_cases h2 : from_ ≤ va
    all_goals
      go_enter Try.func91, Try.ntmps91
      go_wp2
      go_ret
      exact ⟨ret_bool (by simp [h2]), (Below.refl _ _).alloc (Nat.le_refl _) _⟩
  · have h1' : (vb == val) = false := by simpa using h1
    have H1 := Lib.hid h1; clear h1
    go_enter Try.func91, Try.ntmps91
    go_wp2
    go_ret
    exact ⟨ret_bool (by simp [H1.out]), (Below.refl _ _).alloc (Nat.le_refl _) _⟩

/-- Two boxes of one number each, a value and a view. -/
def Caps (w : World) (pv pf : Nat) (val from_ : Int) : Prop := w.cell? ⟨pv, 0, none⟩ = some (.int .i64 val) ∧ w.cell? ⟨pf, 0, none⟩ = some (.int .i64 from_)
theorem Caps.on {w w' : World} {pv pf : Nat} {val from_ : Int} (h : Caps w pv pf val from_) (hb : Below w.heap.size w w') : Caps w' pv pf val from_ :=
  ⟨(hb.cell (p := ⟨pv, 0, none⟩) (World.block_lt_of_cell? w _ h.1)).trans h.1, (hb.cell (p := ⟨pf, 0, none⟩) (World.block_lt_of_cell? w _ h.2)).trans h.2⟩

set_option maxHeartbeats 800000 in
theorem indexFunc_any (val from_ : Int) (pv pf : Nat) (A : Option Addr) (c : Nat) (vs : List (Int × Int)) (w : World) (hr : Rd w w.heap.size A vs) (hn : vs.length ≤ 1048576) (hc : Caps w pv pf val from_) :
    Calls Try.prog 95 #[.slice A vs.length c, .func (.func 91) #[] #[.pointer (some ⟨pv, 0, none⟩), .pointer (some ⟨pf, 0, none⟩)]] w fun e w' => (∃ y : Int, -1 ≤ y ∧ y ≤ 1048576 ∧ decide (0 ≤ y) = vs.any (voteP val from_) ∧ e = .returned (.int .i64 y)) ∧ Below w.heap.size w w' := by
  obtain ⟨z, hz⟩ : ∃ z, vs.any (voteP val from_) = z := ⟨_, rfl⟩
  rw [hz]
  have HZ := Lib.hid hz; clear hz
  obtain ⟨l, hl⟩ : ∃ l, vs.length = l := ⟨_, rfl⟩
  rw [hl] at hn ⊢
  have HL := Lib.hid hl; clear hl
  have HRV := Lib.hid hr; clear hr
  have HC := Lib.hid hc; clear hc
  have HA := Lib.hid (fun j h => take_any (voteP val from_) vs (0, 0) j h)
  show Calls _ _ _ _ (IdxR z w)
  go_enter Try.func95, Try.ntmps95
  go_wp2
  go_loopw [8] (fun i wr => ∃ (j : Nat), j ≤ l ∧ i = .int .i64 j ∧ Hid ((vs.take j).any (voteP val from_) = false) ∧ Below w.heap.size w wr) (fun i _ => l - (intOf i).toNat)
  case atStart => exact ⟨0, Nat.zero_le _, rfl, by show _ = _; simp, Below.refl _ _⟩
  case round =>
    obtain ⟨j, hj, rfl, hy, hbel⟩ := hrel
    by_cases hlj : j < l
    · obtain ⟨b', off', rfl, hb', hd0, hd1⟩ := Rd.at_ (HRV.out.below hbel) (k := j) (by rw [HL.out]; omega)
      have hsa := HA.out j (by rw [HL.out]; exact hlj)
      rw [hy.out] at hsa
      obtain ⟨⟨va, vb⟩, hu⟩ : ∃ u, vs.getD j (0, 0) = u := ⟨_, rfl⟩
      rw [hu] at hd0 hd1 hsa
      simp only at hd0 hd1
      clear hu
      have hcl := Lib.hid (HC.out.on hbel)
      have hcall := clo_vote va vb val from_ pv pf wr hcl.out.1 hcl.out.2
      obtain ⟨q, hq⟩ : ∃ q, voteP val from_ (va, vb) = q := ⟨_, rfl⟩
      rw [hq] at hcall hsa
      simp only [Bool.false_or] at hsa
      have HSA := Lib.hid hsa
      have HCL := Lib.hid hcall
      clear hsa hcall hq hy hcl
      cases q
      · go_wp2_with fail
        refine HCL.out.mono ?_
        rintro e w1 ⟨rfl, hb1⟩
        go_wp2
        go_roundw
        case rel => exact ⟨j + 1, by omega, by go_num, HSA, hbel.trans (hb1.mono hbel.size)⟩
        case measure => simp [intOf]; omega
      · have HT : Hid (z = true) := by
          show _ = _
          rw [← HZ.out, List.any_eq_true]
          have := HSA.out
          rw [List.any_eq_true] at this
          obtain ⟨x, hx, hp⟩ := this
          exact ⟨x, List.mem_of_mem_take hx, hp⟩
        go_wp2_with fail
        refine HCL.out.mono ?_
        rintro e w1 ⟨rfl, hb1⟩
        go_wp2
        go_ret
        exact ⟨⟨_, by omega, by omega, by rw [HT.out]; simp, rfl⟩, hbel.trans (hb1.mono hbel.size)⟩
    · have hjl : j = l := by omega
      subst hjl
      have HT : Hid (z = false) := by
        show _ = _
        rw [← HZ.out, ← hy.out, List.take_of_length_le (by rw [HL.out]; omega)]
      go_wp2
      go_ret
      exact ⟨⟨-1, by omega, by omega, by rw [HT.out]; rfl, rfl⟩, hbel⟩

theorem contains_any (val from_ : Int) (pv pf : Nat) (A : Option Addr) (c : Nat) (vs : List (Int × Int)) (w : World) (hr : Rd w w.heap.size A vs) (hn : vs.length ≤ 1048576) (hc : Caps w pv pf val from_) :
    Calls Try.prog 90 #[.slice A vs.length c, .func (.func 91) #[] #[.pointer (some ⟨pv, 0, none⟩), .pointer (some ⟨pf, 0, none⟩)]] w fun e w' => e = .returned (.bool (vs.any (voteP val from_))) ∧ Below w.heap.size w w' := by
  have HI := Lib.hid (indexFunc_any val from_ pv pf A c vs w hr hn hc)
  generalize vs.any (voteP val from_) = z at *
  clear hr hc
  go_enter Try.func90, Try.ntmps90
  go_wp2_with fail
  refine HI.out.mono ?_
  rintro e w1 ⟨⟨y, hy1, hy2, hyz, rfl⟩, hb1⟩
  have HYZ := Lib.hid hyz; clear hyz
  go_wp2
  go_ret
  exact ⟨ret_bool HYZ.out, hb1⟩

theorem clo_wit (val from_ f v x : Int) (pv pf : Nat) (A : Option Addr) (c : Nat) (vs : List (Int × Int)) (w : World) (hr : Rd w w.heap.size A vs) (hn : vs.length ≤ 1048576) (hc : Caps w pv pf val from_) :
    Calls Try.prog 89 #[.agg #[.int .i64 f, .int .i64 v, .int .i64 x, .slice A vs.length c], .pointer (some ⟨pv, 0, none⟩), .pointer (some ⟨pf, 0, none⟩)] w fun e w' => e = .returned (.bool (hasV val from_ ⟨f, v, x, vs⟩)) ∧ Below w.heap.size w w' := by
  rw [hasV_any]
  have hbx : Below w.heap.size w (w.alloc (.cells #[.int .i64 f, .int .i64 v, .int .i64 x, .slice A vs.length c] 28)) := (Below.refl _ _).alloc (Nat.le_refl _) _
  have HI := Lib.hid (contains_any val from_ pv pf A c vs (w.alloc (.cells #[.int .i64 f, .int .i64 v, .int .i64 x, .slice A vs.length c] 28)) ((hr.below hbx).more (by simp)) hn (hc.on hbx))
  have HB := Lib.hid hbx
  simp only at HI ⊢
  generalize vs.any (voteP val from_) = z at *
  clear hr hc hbx
  go_enter Try.func89, Try.ntmps89
  go_wp2_with fail
  refine HI.out.mono ?_
  rintro e w1 ⟨rfl, hb1⟩
  go_wp2
  go_ret
  exact ⟨rfl, on_ HB.out hb1⟩
end Go.Proofs.Ytcfjmhebhhekbaa.V
