/-
  Told of the model, and the two loops that look for a ballot: contracts. No statement is proved here.
-/
import Derived.Test.YtaegcdbgnjlbdaaTallyGet
set_option linter.unusedVariables false
set_option maxRecDepth 100000
namespace Go.Proofs.Ytaegcdbgnjlbdaa.V
open Go.RowKit Go.Proofs.Ytaegcdbgnjlbdaa.B

def foundV (vs : List B3) (view who : Int) : Int := ((vs.find? (isOf view who)).map (·.2.2)).getD 0
def foundQ (vs : List B3) (view who : Int) : Bool := (vs.find? (isOf view who)).isSome
theorem ret_two {a b : Int} {p q : Bool} (h : a = b) (h2 : p = q) : Ending.returned (.tuple #[.int .i64 a, .bool p]) = .returned (.tuple #[.int .i64 b, .bool q]) := by rw [h, h2]

set_option maxHeartbeats 1600000 in
theorem l2told_any (view who : Int) (A : Option Addr) (c : Nat) (vs : List B3) (w : World) (hr : Rd3 w w.heap.size A vs) (hn : vs.length ≤ 1048576) :
    Calls Try.prog 61 #[.agg #[.slice A vs.length c], .int .i64 view, .int .i64 who] w fun e w' => e = .returned (.tuple #[.int .i64 (foundV vs view who), .bool (foundQ vs view who)]) ∧ Below w.heap.size w w' := by
  obtain ⟨n, hvn⟩ : ∃ n, vs.length = n := ⟨_, rfl⟩
  rw [hvn] at hn ⊢
  have HV := Lib.hid hvn; clear hvn
  go_enter Try.func61, Try.ntmps61
  go_wp2
  have hr1 := (hr.up (.cells #[.slice A n c] 44))
  have kb := Blk.new w 44 #[.slice A n c]
  have rb := kb.cell 0
  have hfin : Below w.heap.size w (w.alloc (.cells #[.slice A n c] 44)) := (Below.refl _ _).alloc (Nat.le_refl _) _
  clear kb hr
  generalize w.alloc (.cells #[.slice A n c] 44) = w1 at *
  go_loop [8] (fun i => ∃ (k : Nat), k ≤ n ∧ i = .int .i64 k ∧ Hid (∀ j, j < k → isOf view who (vs.getD j z3) = false)) (fun i => n - (intOf i).toNat)
  case atStart => exact ⟨0, Nat.zero_le _, rfl, fun j hj => absurd hj (by omega)⟩
  case round =>
    obtain ⟨k, hk, rfl, hall⟩ := hrel
    by_cases hlt : k < n
    · obtain ⟨b, off, rfl, hb, hc0, hc1, hc2⟩ := Rd3.at_ hr1 (k := k) (by rw [HV.out]; omega)
      obtain ⟨⟨ua, ub, uc⟩, hu⟩ : ∃ v, vs.getD k z3 = v := ⟨_, rfl⟩
      rw [hu] at hc0 hc1 hc2
      have HU := Lib.hid hu
      clear hu hr1
      by_cases h1 : ub = view
      · by_cases h2 : ua = who
        · have HF : Hid (vs.find? (isOf view who) = some (ua, ub, uc)) := by
            show _ = _
            have := find_at (vs := vs) (p := isOf view who) (k := k) (by rw [HV.out]; exact hlt) hall.out (by rw [HU.out]; simp [isOf, h1, h2])
            rw [this, HU.out]
          subst h1 h2
          go_wp2
          refine bodyPost_ret (v := .tuple #[.int .i64 uc, .bool true]) (by simp [results, Try.results61, go_sem]) rfl ?_
          exact ⟨ret_two (by simp [foundV, HF.out]) (by simp [foundQ, HF.out]), hfin⟩
        · have hf : (ua == who) = false := by simpa using h2
          have HN : Hid (isOf view who (vs.getD k z3) = false) := by show _ = _; rw [HU.out]; simp [isOf, h2]
          subst h1
          go_wp2
          go_round
          case rel => exact ⟨k + 1, by omega, by go_num, fun j hj => by
            by_cases e : j = k
            · subst e; exact HN.out
            · exact hall.out j (by omega)⟩
          case measure => simp [intOf]; omega
      · have hf : (ub == view) = false := by simpa using h1
        have HN : Hid (isOf view who (vs.getD k z3) = false) := by show _ = _; rw [HU.out]; simp [isOf, h1]
        go_wp2
        go_round
        case rel => exact ⟨k + 1, by omega, by go_num, fun j hj => by
          by_cases e : j = k
          · subst e; exact HN.out
          · exact hall.out j (by omega)⟩
        case measure => simp [intOf]; omega
    · obtain rfl : k = n := by omega
      have HF : Hid (vs.find? (isOf view who) = none) := find_no fun j hj => hall.out j (by rw [HV.out] at hj; exact hj)
      go_wp2
      refine bodyPost_ret (v := .tuple #[.int .i64 0, .bool false]) (by simp [results, Try.results61, go_sem]) rfl ?_
      exact ⟨ret_two (by simp [foundV, HF.out]) (by simp [foundQ, HF.out]), hfin⟩

end Go.Proofs.Ytaegcdbgnjlbdaa.V
