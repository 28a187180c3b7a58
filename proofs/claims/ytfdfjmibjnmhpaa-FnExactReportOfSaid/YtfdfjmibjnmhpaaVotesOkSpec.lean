/-
  What VotesOk of the model answers: its contract. No statement is proved here.
-/
import Derived.Test.YtfdfjmibjnmhpaaVotesOk
set_option linter.unusedVariables false
set_option maxRecDepth 100000
namespace Go.Proofs.Ytfdfjmibjnmhpaa.V
open Go.RowKit Go.Proofs.Ytfdfjmibjnmhpaa.B

set_option maxHeartbeats 1000000 in
theorem specVotesOk_any (A : Option Addr) (c : Nat) (vs : List (Int × Int)) (below : Int) (w : World) (hr : Rd w w.heap.size A vs) (hn : vs.length ≤ 1048576) :
    Calls Try.prog 74 #[.slice A vs.length c, .int .i64 below] w fun e w' => e = .returned (.bool (votesOkB vs below)) ∧ Below w.heap.size w w' := by
  obtain ⟨n, hvn⟩ : ∃ n, vs.length = n := ⟨_, rfl⟩
  rw [hvn] at hn ⊢
  have HV := Lib.hid hvn; clear hvn
  go_enter Try.func74, Try.ntmps74
  go_wp2
  go_loopw [5] (fun i wr => ∃ (k : Nat), k ≤ n ∧ i = .int .i64 k ∧ Hid (∀ j, j < k → goodAt vs below j = true) ∧ Below w.heap.size w wr) (fun i _ => n - (intOf i).toNat)
  case atStart => exact ⟨0, Nat.zero_le _, rfl, fun j hj => absurd hj (by omega), Below.refl _ _⟩
  case round =>
    obtain ⟨k, hk, rfl, hall, hbel⟩ := hrel
    by_cases hlt : k < n
    · obtain ⟨b, off, rfl, hb, hc0, hc1⟩ := Rd.at_ (hr.below hbel) (k := k) (by rw [HV.out]; omega)
      have hcp : 0 < k → wr.cell? ⟨b, off + (k - 1) * 2, none⟩ = some (.int .i64 (vs.getD (k - 1) (0, 0)).1) := fun h0 => Rd.prev (n := 0) (c := 0) (hr.below hbel) (by rw [HV.out]; omega) h0
      clear hr
      obtain ⟨⟨va, vb⟩, hv⟩ : ∃ v, vs.getD k (0, 0) = v := ⟨_, rfl⟩
      obtain ⟨⟨pa, pb⟩, hp⟩ : ∃ v, vs.getD (k - 1) (0, 0) = v := ⟨_, rfl⟩
      have hg : goodAt vs below k = (viewOkB va && valOkB vb && decide (va < below) && (decide (k = 0) || decide (pa < va))) := by unfold goodAt; rw [hv, hp]
      have hgood := Lib.hid hg; clear hg
      rw [hv] at hc0 hc1
      rw [hp] at hcp
      clear hv hp
      have C0 := fun x : Lat wr => x.cell hc0
      have C1 := fun x : Lat wr => x.cell hc1
      rcases h1 : viewOkB va with _ | _
      · have H1 := Lib.hid h1; clear h1
        go_wp2
        refine wp_region_lat (by kernel_rfl) (by kernel_rfl) ?_
        repeat (go_big_quiet_step ((go_at_call 72; exact lat_same _ (specView_is va false H1.out _))))
        refine wpQuiet_nil ?_
        rintro _ ⟨⟨w3, hb3⟩, rfl⟩
        clear C0 C1
        go_wp2
        go_ret
        refine ⟨ret_bool ?_, hbel.trans (hb3.mono hbel.size)⟩
        symm
        exact votesOk_no (k := k) (by rw [HV.out]; omega) (by rw [hgood.out]; simp [H1.out])
      have H1 := Lib.hid h1; clear h1
      rcases h2 : valOkB vb with _ | _
      · have H2 := Lib.hid h2; clear h2
        go_wp2
        refine wp_region_lat (by kernel_rfl) (by kernel_rfl) ?_
        repeat (go_big_quiet_step ((first | (go_at_call 72; exact lat_same _ (specView_is va true H1.out _)) | (go_at_call 71; exact lat_same _ (specVal_is vb false H2.out _)))))
        refine wpQuiet_nil ?_
        rintro _ ⟨⟨w3, hb3⟩, rfl⟩
        clear C0 C1
        go_wp2
        go_ret
        refine ⟨ret_bool ?_, hbel.trans (hb3.mono hbel.size)⟩
        symm
        exact votesOk_no (k := k) (by rw [HV.out]; omega) (by rw [hgood.out]; simp [H2.out])
      have H2 := Lib.hid h2; clear h2
      by_cases h3 : va < below
      · have hd3 : decide (below ≤ va) = false := by simp; omega
        by_cases h4 : 0 < k
        · have hcp := hcp h4
          obtain ⟨p, hkp⟩ : ∃ p, k = p + 1 := ⟨k - 1, by omega⟩
          have hE : (k : Int) - 1 = (p : Int) := by omega
          have hW : IntKind.i64.wrap (p : Int) = (p : Int) := IntWalk.i64_in _ (by omega)
          have hcp : wr.cell? ⟨b, off + p * 2, none⟩ = some (.int .i64 pa) := by rw [show p = k - 1 by omega]; exact hcp
          have CP := fun x : Lat wr => x.cell hcp
          have hw4 : (p : Int) < (n : Int) := by omega
          have hw5 : p < n := by omega
          have HKP := Lib.hid hkp; clear hkp
          by_cases h5 : pa < va
          · have hd5 : decide (va ≤ pa) = false := by simp; omega
            go_wp2
            refine wp_region_lat (by kernel_rfl) (by kernel_rfl) ?_
            repeat (go_big_quiet_step ((first | (go_at_call 72; exact lat_same _ (specView_is va true H1.out _)) | (go_at_call 71; exact lat_same _ (specVal_is vb true H2.out _)))))
            refine wpQuiet_nil ?_
            rintro _ ⟨⟨w3, hb3⟩, rfl⟩
            clear C0 C1
            go_wp2
            go_roundw
            case rel =>
              refine ⟨k + 1, by omega, by go_num, fun j hj => ?_, hbel.trans (hb3.mono hbel.size)⟩
              by_cases e : j = k
              · rw [e, hgood.out]; simp [H1.out, H2.out, h3, h5]
              · exact hall.out j (by omega)
            case measure => simp [intOf]; omega
          · have hd5 : decide (va ≤ pa) = true := by simp; omega
            go_wp2
            refine wp_region_lat (by kernel_rfl) (by kernel_rfl) ?_
            repeat (go_big_quiet_step ((first | (go_at_call 72; exact lat_same _ (specView_is va true H1.out _)) | (go_at_call 71; exact lat_same _ (specVal_is vb true H2.out _)))))
            refine wpQuiet_nil ?_
            rintro _ ⟨⟨w3, hb3⟩, rfl⟩
            clear C0 C1
            go_wp2
            go_ret
            refine ⟨ret_bool ?_, hbel.trans (hb3.mono hbel.size)⟩
            symm
            exact votesOk_no (k := k) (by rw [HV.out]; omega) (by rw [hgood.out]; simp [h5]; omega)
        · clear hcp
          have hd : decide ((0 : Int) < (k : Int)) = false := by simp; omega
          go_wp2
          refine wp_region_lat (by kernel_rfl) (by kernel_rfl) ?_
          repeat (go_big_quiet_step ((first | (go_at_call 72; exact lat_same _ (specView_is va true H1.out _)) | (go_at_call 71; exact lat_same _ (specVal_is vb true H2.out _)))))
          refine wpQuiet_nil ?_
          rintro _ ⟨⟨w3, hb3⟩, rfl⟩
          clear C0 C1
          go_wp2
          go_roundw
          case rel =>
            refine ⟨k + 1, by omega, by go_num, fun j hj => ?_, hbel.trans (hb3.mono hbel.size)⟩
            by_cases e : j = k
            · rw [e, hgood.out]; simp [H1.out, H2.out, h3]; omega
            · exact hall.out j (by omega)
          case measure => simp [intOf]; omega
      · have hd3 : decide (below ≤ va) = true := by simp; omega
        go_wp2
        refine wp_region_lat (by kernel_rfl) (by kernel_rfl) ?_
        repeat (go_big_quiet_step ((first | (go_at_call 72; exact lat_same _ (specView_is va true H1.out _)) | (go_at_call 71; exact lat_same _ (specVal_is vb true H2.out _)))))
        refine wpQuiet_nil ?_
        rintro _ ⟨⟨w3, hb3⟩, rfl⟩
        clear C0 C1
        go_wp2
        go_ret
        refine ⟨ret_bool ?_, hbel.trans (hb3.mono hbel.size)⟩
        symm
        exact votesOk_no (k := k) (by rw [HV.out]; omega) (by rw [hgood.out]; simp; omega)
    · go_wp2
      go_ret
      refine ⟨ret_bool ?_, hbel⟩
      symm
      exact votesOk_yes fun j hj => hall.out j (by have := HV.out; omega)
end Go.Proofs.Ytfdfjmibjnmhpaa.V
