/-
  RepOk of the model: contracts. No statement is proved here.
-/
import Derived.Test.YtfdfjmibjnmhpaaQMath
import Derived.Test.YtfdfjmibjnmhpaaTallyGet
set_option linter.unusedVariables false
set_option maxRecDepth 100000
namespace Go.Proofs.Ytfdfjmibjnmhpaa.V
open Go.RowKit Go.Proofs.Ytfdfjmibjnmhpaa.B

set_option maxHeartbeats 800000 in
theorem l4tally_is (q : Bool) (n : Int) (A : Option Addr) (c : Nat) (vs : List B3) (hq : talB n vs = q) (w : World) (hr : Rd3 w w.heap.size A vs) (hn : vs.length ≤ 1048576) :
    Calls Try.prog 75 #[.agg #[.slice A vs.length c], .int .i64 n] w fun e w' => e = .returned (.bool q) ∧ Below w.heap.size w w' := by
  obtain ⟨t, ht⟩ : ∃ t, tallyOkB vs = t := ⟨_, rfl⟩
  have HS := Lib.hid (fun (W : World) (g : Rd3 W W.heap.size A vs) => specTallyOk_is t A c vs ht W g hn)
  have HQ : Hid ((vs.all (below4 n) && t) = q) := by show _ = _; rw [← hq, ← ht]; rfl
  clear hq ht
  obtain ⟨m, hvn⟩ : ∃ m, vs.length = m := ⟨_, rfl⟩
  rw [hvn] at hn HS ⊢
  have HV := Lib.hid hvn; clear hvn
  have HB := Lib.hid (tally_box w A m c)
  go_enter Try.func75, Try.ntmps75
  go_wp2
  go_loopw [5] (fun i wr => ∃ (k : Nat), k ≤ m ∧ i = .int .i64 k ∧ Hid (∀ j, j < k → below4 n (vs.getD j z3) = true) ∧ Below (w.heap.size + 1) (w.alloc (.cells #[.slice A m c] 37)) wr) (fun i _ => m - (intOf i).toNat)
  case atStart => exact ⟨0, Nat.zero_le _, rfl, fun j hj => absurd hj (by omega), Below.refl _ _⟩
  case round =>
    obtain ⟨k, hk, rfl, hall, hbel⟩ := hrel
    obtain ⟨kb, hbw⟩ := HB.out wr hbel
    have hsz := hbel.size
    simp only [World.size_alloc] at hsz
    have rb : wr.cell? ⟨w.heap.size, 0, none⟩ = some (.slice A m c) := kb.cell 0
    by_cases hlt : k < m
    · obtain ⟨b, off, rfl, hb, hc0, hc1, hc2⟩ := Rd3.at_ (hr.below hbw) (k := k) (by rw [HV.out]; omega)
      clear hr HS
      have HG : Hid (below4 n (vs.getD k z3) = decide ((vs.getD k z3).1 < n)) := rfl
      obtain ⟨⟨ua, ub, uc⟩, hu⟩ : ∃ v, vs.getD k z3 = v := ⟨_, rfl⟩
      rw [hu] at hc0 hc1 hc2 HG
      have HU := Lib.hid hu; clear hu
      by_cases hx : ua < n
      · go_wp2
        go_roundw
        case rel =>
          refine ⟨k + 1, by omega, by go_num, fun j hj => ?_, hbel⟩
          by_cases e : j = k
          · rw [e, HU.out, HG.out]; simpa using hx
          · exact hall.out j (by omega)
        case measure => simp [intOf]; omega
      · go_wp2
        go_ret
        refine ⟨ret_bool ?_, hbw⟩
        rw [← HQ.out, all_take_no (below4 n) vs z3 k (by rw [HV.out]; omega) (by rw [HU.out, HG.out]; simpa using hx)]
        rfl
    · have hr1 := (hr.below hbw).more (Bd' := wr.heap.size) (by omega)
      go_wp2_with fail
      refine (HS.out wr hr1).mono ?_
      rintro e w1 ⟨rfl, hb1⟩
      go_wp2
      go_ret
      refine ⟨ret_bool ?_, hbw.trans (hb1.mono (by omega))⟩
      rw [← HQ.out, all_of (below4 n) vs z3 (fun j hj => hall.out j (by rw [HV.out] at hj; omega))]
      rfl
end Go.Proofs.Ytfdfjmibjnmhpaa.V
