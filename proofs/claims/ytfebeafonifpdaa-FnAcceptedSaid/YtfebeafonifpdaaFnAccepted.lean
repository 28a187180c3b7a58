/-
  Proved here: for whatever bytes of a draw, the law FnAccepted of accepted replies answers true. No condition.
-/
import Derived.Test.YtfebeafonifpdaaRows
import Derived.Test.YtfebeafonifpdaaDoor
import Derived.Test.YtfebeafonifpdaaAccM
import Derived.Test.YtfebeafonifpdaaLift
set_option linter.unusedVariables false
set_option maxRecDepth 100000
namespace Go.Proofs.Ytfebeafonifpdaa.fnAccepted
open Go.RowKit Go.ChangeShapes Go.WideShapes Go.Proofs.Ytfebeafonifpdaa.B Go.Proofs.Ytfebeafonifpdaa.V

set_option maxHeartbeats 6400000 in
theorem walk (A : Option Addr) (n c : Nat) (hm : n ≤ maxLen) (w : World) (hr : RdC w w.heap.size A n) :
    Calls Try.prog 6 #[.slice A n c] w fun e w' => e = .returned (.bool true) ∧ Below w.heap.size w w' := by
  go_enter Try.func6, Try.ntmps6
  go_wp2_with fail
  refine (drawAcc_any A n c hm w hr).mono ?_
  rintro e w1 ⟨nn, seq, B, d, rs, rfl, hrl, hrd, hb1⟩
  have HRD := Lib.hid hrd
  clear hr hrd
  obtain ⟨o, ho⟩ : ∃ o, accW nn rs seq = o := ⟨_, rfl⟩
  have HA : Hid (∀ W : World, Rd3 W W.heap.size B rs → Calls Try.prog 34 #[.int .i64 nn, .slice B rs.length d, .int .i64 seq] W fun e w' => e = .returned (.tuple #[.int .i64 (winV o), .bool o.isSome]) ∧ Below W.heap.size W w') := fun W h => by rw [← ho]; exact implAcc_any nn B d rs seq W h (by omega)
  have HO := Lib.hid ho; clear ho
  have HF : Hid (∀ (g : Nat) (W : World), Rd3 W W.heap.size (some ⟨g, 0, none⟩) [(0, 0, 9), (2, 0, 9)] → Calls Try.prog 34 #[.int .i64 4, .slice (some ⟨g, 0, none⟩) 2 2, .int .i64 0] W fun e w' => e = .returned (.tuple #[.int .i64 9, .bool true]) ∧ Below W.heap.size W w') := fun g W h => by
    have := implAcc_any 4 (some ⟨g, 0, none⟩) 2 [(0, 0, 9), (2, 0, 9)] 0 W h (by simp)
    rw [fixed_acc] at this
    exact this
  go_wp2_with fail
  refine (HA.out w1 HRD.out).mono ?_
  rintro e w2 ⟨rfl, hb2⟩
  have hB2 := on_ hb1 hb2
  have HR2 := Lib.hid (HRD.out.on hb2)
  have hB3 := up_ hB2 (.cells #[.int .i64 0, .int .i64 0, .int .i64 9, .int .i64 2, .int .i64 0, .int .i64 9] 54)
  have HR3 := Lib.hid (HR2.out.up (.cells #[.int .i64 0, .int .i64 0, .int .i64 9, .int .i64 2, .int .i64 0, .int .i64 9] 54))
  have HL3 := Lib.hid (lit_two w2)
  clear hb1 hb2 HRD HA hB2 HR2
  go_wp2_with fail
  refine (HF.out _ _ HL3.out).mono ?_
  rintro e w4 ⟨rfl, hb4⟩
  have hB4 := on_ hB3 hb4
  have HR4 := Lib.hid (HR3.out.on hb4)
  clear hB3 HR3 HL3 HF hb4
  rcases o with _ | v
  · go_wp2
    go_ret
    exact ⟨rfl, hB4⟩
  · have hv : winV (some v) = (v : Int) := rfl
    obtain ⟨h47, hcnt⟩ := acc_count HO.out
    obtain ⟨N, rfl⟩ : ∃ N : Nat, nn = N := ⟨nn.toNat, by omega⟩
    rw [Int.toNat_natCast] at hcnt
    have hN7 : N ≤ 7 := by omega
    have HCNT := Lib.hid hcnt
    have h47' : (N : Int) = 4 ∨ (N : Int) = 7 := by omega
    have HWK := Lib.hid (fun W => specWeak7 (N : Int) h47' W)
    rw [hv]
    clear hv hcnt h47 h47'
    obtain ⟨wk, hwk⟩ : ∃ wk, weakR (N : Int) = wk := ⟨_, rfl⟩
    rw [hwk] at HCNT HWK
    clear hwk
    obtain ⟨l, hl⟩ : ∃ l, rs.length = l := ⟨_, rfl⟩
    rw [hl] at hrl ⊢
    have HL := Lib.hid hl; clear hl
    go_wp2
    go_loop [10, 11] (fun cn i => ∃ (j q : Nat), j ≤ N ∧ i = .int .i64 j ∧ cn = .int .i64 q ∧ q ≤ j ∧ Hid ((votK rs seq (v : Int) j).length = q)) (fun _ i => N - (intOf i).toNat)
    case atStart => exact ⟨0, 0, Nat.zero_le _, rfl, rfl, Nat.le_refl _, by show _ = _; simp [votK]⟩
    case round =>
      obtain ⟨j, q, hj, rfl, rfl, hqj, hq⟩ := hrel
      by_cases hlj : j < N
      · have j0 : (j : Int) < (N : Int) := by omega
        have hst := votK_step rs seq (v : Int) j
        have HST := Lib.hid hst; clear hst
        go_wp2
        go_loop [10, 12] (fun cn i => ∃ k : Nat, k ≤ l ∧ i = .int .i64 k ∧ cn = .int .i64 q ∧ Hid (foundQ (rs.take k) seq (j : Int) = false)) (fun _ i => l - (intOf i).toNat)
        case atStart => exact ⟨0, Nat.zero_le _, rfl, rfl, by show _ = _; simp [foundQ]⟩
        case round =>
          obtain ⟨k, hk, rfl, rfl, hno⟩ := hrel
          by_cases hlk : k < l
          · obtain ⟨bb, off, rfl, hbb, hc0, hc1, hc2⟩ := Rd3.at_ HR4.out (k := k) (by rw [HL.out]; exact hlk)
            have hft := found_take rs seq (j : Int) k (by rw [HL.out]; exact hlk)
            have hfh := fun h => found_hit (rs := rs) (p := seq) (q := (j : Int)) (k := k) (by rw [HL.out]; exact hlk) hno.out h
            obtain ⟨⟨ua, ub, uc⟩, hu⟩ : ∃ u, rs.getD k z3 = u := ⟨_, rfl⟩
            rw [hu] at hc0 hc1 hc2 hft hfh
            rw [hno.out] at hft
            simp only [Bool.false_or] at hft
            have HFT := Lib.hid hft; have HFH := Lib.hid hfh
            clear hft hfh hu
            have k0 : (0 : Int) ≤ (k : Int) := by omega
            have k1 : (k : Int) < (l : Int) := by omega
            by_cases e1 : ua = (j : Int)
            · by_cases e2 : ub = seq
              · subst e1 e2
                obtain ⟨h1, h2⟩ := HFH.out (by unfold isOf; exact decide_eq_true ⟨rfl, rfl⟩)
                by_cases e3 : uc = (v : Int)
                · have HQ : Hid ((votK rs ub (v : Int) (j + 1)).length = q + 1) := by
                    show _ = _
                    rw [HST.out, List.length_append, hq.out, h1, h2]
                    simp [e3]
                  subst e3
                  have hvv : ((v : Int) == (v : Int)) = true := by simp
                  clear h1 h2
                  obtain ⟨q1, hq1⟩ : ∃ q1, q + 1 = q1 := ⟨_, rfl⟩
                  have hE : (q : Int) + 1 = (q1 : Int) := by omega
                  have hWq : IntKind.i64.wrap (q1 : Int) = (q1 : Int) := IntWalk.i64_in _ (by omega)
                  rw [hq1] at HQ
                  have HQ1 : Hid (q1 ≤ j + 1) := by show _ ≤ _; omega
                  clear hq1
                  go_wp2
                  go_round
                  case rel => exact ⟨j + 1, q1, by omega, by go_num, rfl, HQ1.out, HQ⟩
                  case measure => simp [intOf]; omega
                · have HQ : Hid ((votK rs ub (v : Int) (j + 1)).length = q) := by
                    show _ = _
                    rw [HST.out, List.length_append, hq.out, h1, h2]
                    simp [e3]
                  have hvv : (uc == (v : Int)) = false := by simpa using e3
                  clear h1 h2 e3
                  go_wp2
                  go_round
                  case rel => exact ⟨j + 1, q, by omega, by go_num, rfl, by omega, HQ⟩
                  case measure => simp [intOf]; omega
              · have hf2 : (ub == seq) = false := by simpa using e2
                have HN : Hid (foundQ (rs.take (k + 1)) seq (j : Int) = false) := by show _ = _; rw [HFT.out]; unfold isOf; exact decide_eq_false (fun h => e2 h.1)
                subst e1
                clear e2
                go_wp2
                go_round
                case rel => exact ⟨k + 1, by omega, by go_num, rfl, HN⟩
                case measure => simp [intOf]; omega
            · have hf1 : (ua == (j : Int)) = false := by simpa using e1
              have HN : Hid (foundQ (rs.take (k + 1)) seq (j : Int) = false) := by show _ = _; rw [HFT.out]; unfold isOf; exact decide_eq_false (fun h => e1 h.2)
              clear e1
              go_wp2
              go_round
              case rel => exact ⟨k + 1, by omega, by go_num, rfl, HN⟩
              case measure => simp [intOf]; omega
          · obtain rfl : k = l := by omega
            have HQ : Hid ((votK rs seq (v : Int) (j + 1)).length = q) := by
              have h0 := hno.out
              rw [List.take_of_length_le (by rw [HL.out]; exact Nat.le_refl _)] at h0
              show _ = _
              rw [HST.out, List.length_append, hq.out, h0]
              simp
            go_wp2
            go_round
            case rel => exact ⟨j + 1, q, by omega, by go_num, rfl, by omega, HQ⟩
            case measure => simp [intOf]; omega
      · obtain rfl : j = N := by omega
        have hfin := HCNT.out
        rw [hq.out] at hfin
        go_wp2_with fail
        refine (HWK.out _).mono ?_
        rintro e w5 ⟨rfl, h9⟩; obtain rfl := h9.symm
        go_wp2
        go_ret
        exact ⟨rfl, hB4⟩

theorem closed : joinedFacts Try.prog 6 Try.f6 Rows.fnAcceptedSpec Rows.fnAcceptedRow = true := by
  unfold joinedFacts
  rw [D.make_is, D.enter_is, D.final_is]
  kernel_rfl

set_option maxRecDepth 100000 in
theorem lifted (os : Os) (started : os.Started) (H : Type) (enc : TypeId × Value → H) :
    ReturnsInHanded {} Try.checked os 6 .any (Rows.fnAcceptedSpec.pre6 enc Try.prog Try.f6 Rows.fnAcceptedRow.domain false) (Rows.fnAcceptedSpec.post enc Try.prog Try.f6 false true false false) := by
  refine returnsInHanded_of_change (C := Try.checked) D.own started (by kernel_rfl) Try.func6
    (ChangeSpec.witness6 (enc := enc) (C := Try.checked) false ⟨#[], #[.slice none 0 0], []⟩ 8 (by kernel_rfl) (by kernel_rfl) (by kernel_rfl) (by kernel_rfl)) ?_
  intro W base args ds gs before hval0 hW hcnd _
  have hval : ∀ (j : Nat) t v, Try.f6.params[j]? = some t → args[j]? = some v → Value.okWide Try.prog W .any base t v := hval0
  have hW' := hW
  obtain ⟨p, q, hA0, hV, rfl, hfz, hnd⟩ := hW
  have hA : DataW.TrodAll enc Try.prog W 0 (fun _ => true) true Try.f6.params.toList args.toList ds p := hA0
  rw [Try.params6] at hA hval
  obtain ⟨v0, d0, rfl, rfl, h0⟩ := trodAll_one hA
  obtain ⟨a0, len0, cap0, rfl⟩ := okWide_slice Try.underlying22 (hval 0 22 v0 rfl rfl)
  obtain ⟨fuel0, hf0⟩ := h0
  obtain ⟨Ab, nb, cb, hcs0, hmb, hrb⟩ := open_code hf0
  have hv0 : (Value.slice a0 len0 cap0) = .slice Ab nb cb := by simpa [Value.cells] using hcs0
  rw [hv0] at hW' ⊢
  refine (walk Ab nb cb hmb W hrb).mono fun e W' ⟨he, hb⟩ => ⟨_, he, law_post D.laidOut hW' hb rfl (by kernel_rfl) Try.underlying4 (by kernel_rfl) rfl⟩

theorem over : Rows.fnAcceptedRow.holds Try.pinned (OpenSpec.ofChange Rows.fnAcceptedSpec) :=
  OpenClaim.holds_of_wide 6 Try.f6 rfl rfl rfl rfl rfl rfl rfl ⟨rfl, rfl, rfl, rfl, rfl⟩ rfl rfl rfl rfl rfl (by kernel_rfl) Try.func6 closed
    (of_decide_eq_true (by kernel_rfl)) (by unfold Func.isWrapper; first | (rw [if_pos (by decide +kernel)]; kernel_rfl) | (rw [if_neg (by decide +kernel)]; exact ⟨rfl, rfl⟩))
    (fun os started H enc _ => lifted os started H enc)

theorem proved : Rows.FnAcceptedSaid :=
  over
end Go.Proofs.Ytfebeafonifpdaa.fnAccepted
