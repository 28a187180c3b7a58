/-
  Witnesses and grounds, of the model: contracts. No statement is proved here.
-/
import Derived.Test.YtikhakmddcmbpaaRepOk
set_option linter.unusedVariables false
set_option maxRecDepth 100000
namespace Go.Proofs.Ytikhakmddcmbpaa.V
open Go.RowKit Go.Proofs.Ytikhakmddcmbpaa.B

theorem hasV_nil (f v x val from_ : Int) (vs : List (Int × Int)) : hasV val from_ ⟨f, v, x, vs⟩ = vs.any fun p => decide (p.2 = val) && decide (from_ ≤ p.1) := rfl

set_option maxHeartbeats 1600000 in
theorem l3witnesses_any (val from_ : Int) (A : Option Addr) (c : Nat) (ps : List Pp) (w : World) (hr : RdR w w.heap.size A ps) (hf : Few ps) :
    Calls Try.prog 105 #[.slice A ps.length c, .int .i64 val, .int .i64 from_] w fun e w' => e = .returned (.int .i64 (wit (rl ps) val from_)) ∧ w' = w := by
  obtain ⟨hn, hv⟩ := hf
  obtain ⟨m, hvm⟩ : ∃ m, ps.length = m := ⟨_, rfl⟩
  rw [hvm] at hn hv ⊢
  have HVL := Lib.hid hv; clear hv
  have HV := Lib.hid hvm; clear hvm
  have HR := Lib.hid hr; clear hr
  have HC := Lib.hid (fun k => cnt_le (hasV val from_) (rl ps) k)
  have HS := Lib.hid (fun k h => take_cnt (hasV val from_) (rl ps) zR k h)
  go_enter Try.func105, Try.ntmps105
  go_wp2
  go_loop [7, 8] (fun a i => ∃ (k y : Nat), k ≤ m ∧ y ≤ k ∧ i = .int .i64 k ∧ a = .int .i64 y ∧ Hid (((rl ps).take k).countP (hasV val from_) = y)) (fun _ i => m - (intOf i).toNat)
  case atStart => exact ⟨0, 0, Nat.zero_le _, Nat.le_refl _, rfl, rfl, by show _ = _; simp⟩
  case round =>
    obtain ⟨k, y, hk, hyk, rfl, rfl, hy⟩ := hrel
    by_cases hlt : k < m
    · obtain ⟨b, off, rfl, hb, hc0, hc1, hc2, hc3, hrv⟩ := RdR.at_ HR.out (k := k) (by rw [HV.out]; omega)
      have hvl := HVL.out k hlt
      have hst := HS.out k (by rw [rl_len, HV.out]; exact hlt)
      rw [rl_at] at hst
      obtain ⟨⟨⟨f, v, x, vs⟩, A', c'⟩, hu⟩ : ∃ u, ps.getD k zP = u := ⟨_, rfl⟩
      rw [hu] at hc0 hc1 hc2 hc3 hvl hrv hst
      simp only at hc0 hc1 hc2 hc3 hvl hrv hst
      rw [hy.out, hasV_nil] at hst
      clear hu hc0 hc1 hc2
      have HST := Lib.hid hst; clear hst hy
      obtain ⟨l, hl⟩ : ∃ l, vs.length = l := ⟨_, rfl⟩
      rw [hl] at hc3 hvl
      have HL := Lib.hid hl; clear hl
      have HRV := Lib.hid hrv; clear hrv
      have HA := Lib.hid (fun j h => take_any (fun p : Int × Int => decide (p.2 = val) && decide (from_ ≤ p.1)) vs (0, 0) j h)
      go_wp2
      go_loop [9, 10] (fun q i => ∃ (j : Nat) (z : Bool), j ≤ l ∧ i = .int .i64 j ∧ q = .bool z ∧ Hid ((vs.take j).any (fun p : Int × Int => decide (p.2 = val) && decide (from_ ≤ p.1)) = z)) (fun _ i => l - (intOf i).toNat)
      case atStart => exact ⟨0, false, Nat.zero_le _, rfl, rfl, by show _ = _; simp⟩
      case round =>
        obtain ⟨j, z, hj, rfl, rfl, hz⟩ := hrel
        by_cases hlj : j < l
        · obtain ⟨b', off', rfl, hb', hd0, hd1⟩ := Rd.at_ HRV.out (k := j) (by rw [HL.out]; omega)
          have hsa := HA.out j (by rw [HL.out]; exact hlj)
          rw [hz.out] at hsa
          obtain ⟨⟨va, vb⟩, hu⟩ : ∃ u, vs.getD j (0, 0) = u := ⟨_, rfl⟩
          rw [hu] at hd0 hd1 hsa
          simp only at hd0 hd1 hsa
          clear hu
          have HSA := Lib.hid hsa; clear hsa hz
          cases z
          · by_cases h1 : vb = val
            · have h1' : (vb == val) = true := by rw [h1]; simp
              have H1 := Lib.hid h1; clear h1
              by_cases h2 : from_ ≤ va
              all_goals
                go_wp2
                go_round
                case rel => exact ⟨j + 1, _, by omega, by go_num, rfl, by show _ = _; rw [HSA.out]; simp [H1.out]; try omega⟩
                case measure => simp [intOf]; omega
            · have h1' : (vb == val) = false := by simp [h1]
              have H1 := Lib.hid h1; clear h1
              go_wp2
              go_round
              case rel => exact ⟨j + 1, _, by omega, by go_num, rfl, by show _ = _; rw [HSA.out]; simp [H1.out]⟩
              case measure => simp [intOf]; omega
          · go_wp2
            go_round
            case rel => exact ⟨j + 1, _, by omega, by go_num, rfl, by show _ = _; rw [HSA.out]; simp⟩
            case measure => simp [intOf]; omega
        · have hjl : j = l := by omega
          subst hjl
          have hz' := hz.out
          rw [List.take_of_length_le (by rw [HL.out]; omega)] at hz'
          have hst := HST.out
          rw [hz'] at hst
          have HST2 := Lib.hid hst; clear hst hz' hz
          cases z
          · go_wp2
            go_round
            case rel => exact ⟨k + 1, y, by omega, by omega, by go_num, rfl, by show _ = _; rw [HST2.out]; simp⟩
            case measure => simp [intOf]; omega
          · go_wp2
            go_round
            case rel => exact ⟨k + 1, y + 1, by omega, by omega, by go_num, by go_num, by show _ = _; rw [HST2.out]; simp⟩
            case measure => simp [intOf]; omega
    · have hkm : k = m := by omega
      subst hkm
      go_wp2
      go_ret
      refine ⟨ret_int2 ?_, rfl⟩
      have := hy.out
      rw [List.take_of_length_le (by rw [rl_len, HV.out]; omega)] at this
      unfold wit
      rw [this]

theorem wit_le (rs : List Rp) (val from_ : Int) : wit rs val from_ ≤ rs.length := List.countP_le_length
theorem weak_pos {n : Int} (h : sizeB n = true) : weakR n = 2 ∨ weakR n = 3 := by
  rcases size_two h with rfl | rfl
  · left; decide
  · right; decide
theorem last_no (ok : Int → Bool) : ∀ (j k : Nat), j ≤ k → (∀ i, j ≤ i → i < k → ok i = false) → last ok k = last ok j := by
  intro j k
  induction k with
  | zero => intro h _; obtain rfl : j = 0 := by omega
            rfl
  | succ k ih =>
    intro h hall
    by_cases e : j = k + 1
    · subst e; rfl
    · have h1 := hall k (by omega) (by omega)
      have h2 := ih (by omega) (fun i hi hik => hall i hi (by omega))
      rw [← h2]
      show (if ok k then (k : Int) else last ok k) = _
      rw [h1]; simp

set_option maxHeartbeats 800000 in
theorem l3grounds_any (n view val : Int) (A : Option Addr) (c : Nat) (ps : List Pp) (hs : sizeB n = true) (hw : viewR view = true) (w : World) (hr : RdR w w.heap.size A ps) (hf : Few ps) :
    Calls Try.prog 106 #[.int .i64 n, .int .i64 view, .slice A ps.length c, .int .i64 val] w fun e w' => e = .returned (.int .i64 (groundsR n view (rl ps) val)) ∧ w' = w := by
  obtain ⟨t, rfl⟩ : ∃ t : Nat, view = t := ⟨view.toNat, by unfold viewR at hw; simp at hw; omega⟩
  have ht : 1 ≤ t ∧ t ≤ 9 := by unfold viewR at hw; simp at hw; omega
  obtain ⟨ht1, ht9⟩ := ht
  obtain ⟨z, hz⟩ : ∃ z, groundsR n (t : Int) (rl ps) val = z := ⟨_, rfl⟩
  rw [hz]
  have HZ : Hid (last (groundR n (rl ps) val) t = z) := by show _ = _; rw [← hz]; unfold groundsR; simp
  obtain ⟨q, hq⟩ : ∃ q, weakR n = q := ⟨_, rfl⟩
  have hq7 := weak_pos hs
  rw [hq] at hq7
  have HWK := Lib.hid (fun W => weak_is n q hq hs W)
  have HG : Hid (∀ u : Nat, groundR n (rl ps) val u = decide (q ≤ (wit (rl ps) val u : Int))) := by
    show ∀ u : Nat, _
    intro u
    unfold groundR
    rw [hq]
  clear hz hs hw hq
  have hn := hf.1
  have HW := Lib.hid (fun u => l3witnesses_any val u A c ps w hr hf)
  have HL : Hid (∀ u, wit (rl ps) val u ≤ ps.length) := fun u => by have := wit_le (rl ps) val u; rwa [rl_len] at this
  clear hf hr
  obtain ⟨m, hvm⟩ : ∃ m, ps.length = m := ⟨_, rfl⟩
  rw [hvm] at hn HW HL ⊢
  clear hvm
  go_enter Try.func106, Try.ntmps106
  go_wp2
  go_loop [9] (fun i => ∃ (k : Nat), k ≤ t ∧ i = .int .i64 ((k : Int) - 1) ∧ Hid (∀ u : Nat, k ≤ u → u < t → groundR n (rl ps) val u = false)) (fun i => ((intOf i) + 1).toNat)
  case atStart => exact ⟨t, Nat.le_refl _, rfl, fun u h1 h2 => absurd h2 (by omega)⟩
  case round =>
    obtain ⟨k, hk, rfl, hall⟩ := hrel
    rcases k with _ | k
    · go_wp2
      go_ret
      refine ⟨ret_int2 ?_, rfl⟩
      rw [← HZ.out, last_no _ 0 t (by omega) (fun i h1 h2 => hall.out i h1 h2)]
      rfl
    · have e1 : ((k + 1 : Nat) : Int) - 1 = (k : Int) := by omega
      rw [e1]
      have HWk := Lib.hid (HW.out (k : Int))
      have hle := HL.out (k : Int)
      have hg := HG.out k
      generalize wit (rl ps) val (k : Int) = y at *
      by_cases hy : q ≤ (y : Int)
      · have HGK : Hid (groundR n (rl ps) val (k : Int) = true) := by show _ = _; rw [hg]; simpa using hy
        clear hg
        go_wp2_with (first | (go_at_call 105; refine HWk.out.mono ?_; rintro e w1 ⟨rfl, h1⟩; obtain rfl := h1.symm) | (go_at_call 84; refine (HWK.out _).mono ?_; rintro e w1 ⟨rfl, h1⟩; obtain rfl := h1.symm))
        go_ret
        refine ⟨ret_int2 ?_, rfl⟩
        rw [← HZ.out, last_no _ (k + 1) t (by omega) (fun i h1 h2 => hall.out i h1 h2)]
        show (k : Int) = (if groundR n (rl ps) val k then (k : Int) else last _ k)
        rw [HGK.out]; rfl
      · have HGK : Hid (groundR n (rl ps) val (k : Int) = false) := by show _ = _; rw [hg]; simpa using hy
        clear hg
        go_wp2_with (first | (go_at_call 105; refine HWk.out.mono ?_; rintro e w1 ⟨rfl, h1⟩; obtain rfl := h1.symm) | (go_at_call 84; refine (HWK.out _).mono ?_; rintro e w1 ⟨rfl, h1⟩; obtain rfl := h1.symm))
        go_round
        case rel =>
          refine ⟨k, by omega, rfl, fun u h1 h2 => ?_⟩
          by_cases e : u = k
          · subst e; exact HGK.out
          · exact hall.out u (by omega) h2
        case measure => simp [intOf]
end Go.Proofs.Ytikhakmddcmbpaa.V
