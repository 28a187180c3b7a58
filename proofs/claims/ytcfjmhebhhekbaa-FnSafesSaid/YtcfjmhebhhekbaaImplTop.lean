/-
  The program's functions on reports that the document lists, those that count: contracts. No statement is proved here.
-/
import Derived.Test.YtcfjmhebhhekbaaRepEq
set_option linter.unusedVariables false
set_option maxRecDepth 100000
namespace Go.Proofs.Ytcfjmhebhhekbaa.V
open Go.RowKit Go.Proofs.Ytcfjmhebhhekbaa.B

theorem implGrounds_any (n view : Int) (val : Int) (A : Option Addr) (c : Nat) (ps : List Pp) (rs : List Rp) (e0 : rl ps = rs) (w : World) (hr : RdR w w.heap.size A ps) (hf : Few ps) :
    Calls Try.prog 17 #[.int .i64 n, .int .i64 view, .slice A ps.length c, .int .i64 val] w fun e w' => e = .returned (.int .i64 (groundsT n view rs val)) ∧ Below w.heap.size w w' := by
  subst e0
  rcases hq : repsOkB n view (rl ps) with _ | _
  · have HO := Lib.hid (reportsOf_no n view A c ps hq w hr hf)
    have HQ := Lib.hid hq
    have HZ : Hid (∀ v : Value, v = .int .i64 (-1) → (.int .i64 (groundsT n view (rl ps) val)) = v) := by show ∀ v, _; intro v hv; rw [hv]; simp [groundsT, HQ.out]
    have HZ' := HZ.out _ rfl
    rw [HZ']
    clear HZ HZ' hq hr hf
    go_enter Try.func17, Try.ntmps17
    go_wp2_with fail
    refine HO.out.mono ?_
    rintro e w1 ⟨rfl, hb1⟩
    go_wp2
    go_ret
    exact ⟨rfl, hb1⟩
  · skip
    have HO := Lib.hid (reportsOf_yes n view A c ps hq w hr hf)
    have HQ := Lib.hid hq
    obtain ⟨hsz, hw⟩ := reps_size hq
    have HC := Lib.hid (fun (b : Nat) (W : World) (h : SetAt W b n view (sl ps)) => grounds_is val b n view (sl ps) _ (groundsS_eq hq val) hsz hw W h)
    have HZ : Hid (∀ v : Value, v = .int .i64 (groundsR n view (rl ps) val) → (.int .i64 (groundsT n view (rl ps) val)) = v) := by show ∀ v, _; intro v hv; rw [hv]; simp [groundsT, HQ.out]
    have HZ' := HZ.out _ rfl
    rw [HZ']
    clear HZ HZ' hq hr hf hsz hw
    go_enter Try.func17, Try.ntmps17
    go_wp2_with fail
    refine HO.out.mono ?_
    rintro e w1 ⟨b, rfl, hlt, hs1, hb1⟩
    have HS1 := Lib.hid hs1
    clear hs1
    go_wp2_with fail
    refine (HC.out _ _ HS1.out).mono ?_
    rintro e w2 ⟨rfl, hb2⟩
    go_wp2
    go_ret
    exact ⟨rfl, on_ hb1 hb2⟩

theorem implFree_any (n view : Int) (A : Option Addr) (c : Nat) (ps : List Pp) (rs : List Rp) (e0 : rl ps = rs) (w : World) (hr : RdR w w.heap.size A ps) (hf : Few ps) :
    Calls Try.prog 16 #[.int .i64 n, .int .i64 view, .slice A ps.length c] w fun e w' => e = .returned (.bool (freeT n view rs)) ∧ Below w.heap.size w w' := by
  subst e0
  rcases hq : repsOkB n view (rl ps) with _ | _
  · have HO := Lib.hid (reportsOf_no n view A c ps hq w hr hf)
    have HQ := Lib.hid hq
    have HZ : Hid (∀ v : Value, v = .bool false → (.bool (freeT n view (rl ps))) = v) := by show ∀ v, _; intro v hv; rw [hv]; simp [freeT, HQ.out]
    have HZ' := HZ.out _ rfl
    rw [HZ']
    clear HZ HZ' hq hr hf
    go_enter Try.func16, Try.ntmps16
    go_wp2_with fail
    refine HO.out.mono ?_
    rintro e w1 ⟨rfl, hb1⟩
    go_wp2
    go_ret
    exact ⟨rfl, hb1⟩
  · skip
    have HO := Lib.hid (reportsOf_yes n view A c ps hq w hr hf)
    have HQ := Lib.hid hq
    obtain ⟨hsz, hw⟩ := reps_size hq
    have HC := Lib.hid (fun (b : Nat) (W : World) (h : SetAt W b n view (sl ps)) => free_is b n view (sl ps) _ (freeS_eq hq) W h)
    have HZ : Hid (∀ v : Value, v = .bool (freeR n (rl ps)) → (.bool (freeT n view (rl ps))) = v) := by show ∀ v, _; intro v hv; rw [hv]; simp [freeT, HQ.out]
    have HZ' := HZ.out _ rfl
    rw [HZ']
    clear HZ HZ' hq hr hf hsz hw
    go_enter Try.func16, Try.ntmps16
    go_wp2_with fail
    refine HO.out.mono ?_
    rintro e w1 ⟨b, rfl, hlt, hs1, hb1⟩
    have HS1 := Lib.hid hs1
    clear hs1
    go_wp2_with fail
    refine (HC.out _ _ HS1.out).mono ?_
    rintro e w2 ⟨rfl, hb2⟩
    go_wp2
    go_ret
    exact ⟨rfl, on_ hb1 hb2⟩

theorem implSafe_any (n view : Int) (val : Int) (A : Option Addr) (c : Nat) (ps : List Pp) (rs : List Rp) (e0 : rl ps = rs) (w : World) (hr : RdR w w.heap.size A ps) (hf : Few ps) :
    Calls Try.prog 13 #[.int .i64 n, .int .i64 view, .slice A ps.length c, .int .i64 val] w fun e w' => e = .returned (.bool (safeT n view rs val)) ∧ Below w.heap.size w w' := by
  subst e0
  rcases hq : repsOkB n view (rl ps) with _ | _
  · have HO := Lib.hid (reportsOf_no n view A c ps hq w hr hf)
    have HQ := Lib.hid hq
    have HZ : Hid (∀ v : Value, v = .bool false → (.bool (safeT n view (rl ps) val)) = v) := by show ∀ v, _; intro v hv; rw [hv]; simp [safeT, HQ.out]
    have HZ' := HZ.out _ rfl
    rw [HZ']
    clear HZ HZ' hq hr hf
    go_enter Try.func13, Try.ntmps13
    go_wp2_with fail
    refine HO.out.mono ?_
    rintro e w1 ⟨rfl, hb1⟩
    go_wp2
    go_ret
    exact ⟨rfl, hb1⟩
  · skip
    have HO := Lib.hid (reportsOf_yes n view A c ps hq w hr hf)
    have HQ := Lib.hid hq
    obtain ⟨hsz, hw⟩ := reps_size hq
    have HC := Lib.hid (fun (b : Nat) (W : World) (h : SetAt W b n view (sl ps)) => safe_is val b n view (sl ps) _ (safeS_eq hq val) hsz hw W h)
    have HZ : Hid (∀ v : Value, v = .bool (valOkB val && safeR n view (rl ps) val) → (.bool (safeT n view (rl ps) val)) = v) := by show ∀ v, _; intro v hv; rw [hv]; simp [safeT, HQ.out]
    have HZ' := HZ.out _ rfl
    rw [HZ']
    clear HZ HZ' hq hr hf hsz hw
    go_enter Try.func13, Try.ntmps13
    go_wp2_with fail
    refine HO.out.mono ?_
    rintro e w1 ⟨b, rfl, hlt, hs1, hb1⟩
    have HS1 := Lib.hid hs1
    clear hs1
    go_wp2_with fail
    refine (HC.out _ _ HS1.out).mono ?_
    rintro e w2 ⟨rfl, hb2⟩
    go_wp2
    go_ret
    exact ⟨rfl, on_ hb1 hb2⟩

end Go.Proofs.Ytcfjmhebhhekbaa.V
