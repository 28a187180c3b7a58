/-
  What VotesOk of the program answers: its contract. No statement is proved here.
-/
import Derived.Test.YtfdfjmibjnmhpaaVotesOk
import Derived.IntWalk
set_option linter.unusedVariables false
set_option maxRecDepth 100000
namespace Go.Proofs.Ytfdfjmibjnmhpaa.V
open Go.RowKit Go.Proofs.Ytfdfjmibjnmhpaa.B

theorem goodAt_vote {vs : List (Int × Int)} {below : Int} {k : Nat} {va vb pa pb : Int} (hv : vs.getD k (0, 0) = (va, vb)) (hp : vs.getD (k - 1) (0, 0) = (pa, pb)) :
    goodAt vs below k = (voteOkB va vb below && (decide (k = 0) || decide (pa < va))) := by
  unfold goodAt voteOkB
  rw [hv, hp]
  cases viewOkB va <;> cases valOkB vb <;> simp

set_option maxHeartbeats 400000 in
theorem implVotesOk_any (A : Option Addr) (c : Nat) (vs : List (Int × Int)) (below : Int) (w : World) (hr : Rd w w.heap.size A vs) (hn : vs.length ≤ 1048576) :
    Calls Try.prog 84 #[.slice A vs.length c, .int .i64 below] w fun e w' => e = .returned (.bool (votesOkB vs below)) ∧ Below w.heap.size w w' := by
  obtain ⟨n, hvn⟩ : ∃ n, vs.length = n := ⟨_, rfl⟩
  rw [hvn] at hn ⊢
  have HV := Lib.hid hvn; clear hvn
  go_enter Try.func84, Try.ntmps84
  go_wp2
  go_loopw [9] (fun i wr => ∃ (k : Nat), k ≤ n ∧ i = .int .i64 k ∧ Hid (∀ j, j < k → goodAt vs below j = true) ∧ Below w.heap.size w wr) (fun i _ => n - (intOf i).toNat)
  case atStart => exact ⟨0, Nat.zero_le _, rfl, fun j hj => absurd hj (by omega), Below.refl _ _⟩
  case round =>
    obtain ⟨k, hk, rfl, hall, hbel⟩ := hrel
    by_cases hlt : k < n
    · obtain ⟨b, off, rfl, hb, hc0, hc1⟩ := Rd.at_ (hr.below hbel) (k := k) (by rw [HV.out]; omega)
      have hcp : 0 < k → wr.cell? ⟨b, off + (k - 1) * 2, none⟩ = some (.int .i64 (vs.getD (k - 1) (0, 0)).1) := fun h0 => Rd.prev (n := 0) (c := 0) (hr.below hbel) (by rw [HV.out]; omega) h0
      clear hr
      obtain ⟨⟨va, vb⟩, hv⟩ : ∃ v, vs.getD k (0, 0) = v := ⟨_, rfl⟩
      obtain ⟨⟨pa, pb⟩, hp⟩ : ∃ v, vs.getD (k - 1) (0, 0) = v := ⟨_, rfl⟩
      have hgood := Lib.hid (goodAt_vote (below := below) hv hp)
      rw [hv] at hc0 hc1
      rw [hp] at hcp
      clear hv hp
      rcases h1 : voteOkB va vb below with _ | _
      · have H1 := Lib.hid h1; clear h1
        go_wp2_with fail
        have hbW := hbel.alloc hbel.size (.cells #[.int .i64 va, .int .i64 vb] 34)
        have c0 : (wr.alloc (.cells #[.int .i64 va, .int .i64 vb] 34)).cell? ⟨wr.heap.size, 0, none⟩ = some (.int .i64 va) := (Blk.new wr 34 #[.int .i64 va, .int .i64 vb]).cell 0
        have c1 : (wr.alloc (.cells #[.int .i64 va, .int .i64 vb] 34)).cell? ⟨wr.heap.size, 1, none⟩ = some (.int .i64 vb) := (Blk.new wr 34 #[.int .i64 va, .int .i64 vb]).cell 1
        clear hc0 hc1 hcp
        generalize wr.alloc (.cells #[.int .i64 va, .int .i64 vb] 34) = W0 at *
        have C0 := fun x : Lat W0 => x.cell c0
        have C1 := fun x : Lat W0 => x.cell c1
        refine wp_region_lat (by kernel_rfl) (by kernel_rfl) ?_
        repeat (go_big_quiet_step ((go_at_call 107; exact lat_call _ (voteOk_is va vb below false H1.out _))))
        refine wpQuiet_nil ?_
        rintro _ ⟨⟨w3, hb3⟩, rfl⟩
        clear C0 C1 c0 c1
        go_wp2
        go_ret
        refine ⟨ret_bool ?_, hbW.trans (hb3.mono hbW.size)⟩
        symm
        exact votesOk_no (k := k) (by rw [HV.out]; omega) (by rw [hgood.out]; simp [H1.out])
      have H1 := Lib.hid h1; clear h1
      by_cases h4 : 0 < k
      · have hcq := hcp h4
        clear hcp
        obtain ⟨p, hkp⟩ : ∃ p, k = p + 1 := ⟨k - 1, by omega⟩
        have hE : (k : Int) - 1 = (p : Int) := by omega
        have hW : IntKind.i64.wrap (p : Int) = (p : Int) := IntWalk.i64_in _ (by omega)
        rw [show k - 1 = p by omega] at hcq
        have hw4 : (p : Int) < (n : Int) := by omega
        have hw5 : p < n := by omega
        have hw6 : (0 : Int) < (k : Int) := by omega
        have HKP := Lib.hid hkp; clear hkp
        have cp : (wr.alloc (.cells #[.int .i64 va, .int .i64 vb] 34)).cell? ⟨b, off + p * 2, none⟩ = some (.int .i64 pa) := (World.cell?_alloc_lt wr _ _ (World.block_lt_of_cell? wr _ hcq)).trans hcq
        go_wp2_with fail
        have hbW := hbel.alloc hbel.size (.cells #[.int .i64 va, .int .i64 vb] 34)
        have c0 : (wr.alloc (.cells #[.int .i64 va, .int .i64 vb] 34)).cell? ⟨wr.heap.size, 0, none⟩ = some (.int .i64 va) := (Blk.new wr 34 #[.int .i64 va, .int .i64 vb]).cell 0
        have c1 : (wr.alloc (.cells #[.int .i64 va, .int .i64 vb] 34)).cell? ⟨wr.heap.size, 1, none⟩ = some (.int .i64 vb) := (Blk.new wr 34 #[.int .i64 va, .int .i64 vb]).cell 1
        clear hc0 hc1 hcq
        generalize wr.alloc (.cells #[.int .i64 va, .int .i64 vb] 34) = W0 at *
        have C0 := fun x : Lat W0 => x.cell c0
        have C1 := fun x : Lat W0 => x.cell c1
        have CP := fun x : Lat W0 => x.cell cp
        by_cases h5 : pa < va
        · refine wp_region_lat (by kernel_rfl) (by kernel_rfl) ?_
          repeat (go_big_quiet_step ((go_at_call 107; exact lat_call _ (voteOk_is va vb below true H1.out _))))
          refine wpQuiet_nil ?_
          rintro _ ⟨⟨w3, hb3⟩, rfl⟩
          clear C0 C1 c0 c1 CP cp
          go_wp2
          go_roundw
          case rel =>
            refine ⟨k + 1, by omega, by go_num, fun j hj => ?_, hbW.trans (hb3.mono hbW.size)⟩
            by_cases e : j = k
            · rw [e, hgood.out]; simp [H1.out, h5]
            · exact hall.out j (by omega)
          case measure => simp [intOf]; omega
        · have h6 : va ≤ pa := by omega
          refine wp_region_lat (by kernel_rfl) (by kernel_rfl) ?_
          repeat (go_big_quiet_step ((go_at_call 107; exact lat_call _ (voteOk_is va vb below true H1.out _))))
          refine wpQuiet_nil ?_
          rintro _ ⟨⟨w3, hb3⟩, rfl⟩
          clear C0 C1 c0 c1 CP cp
          go_wp2
          go_ret
          refine ⟨ret_bool ?_, hbW.trans (hb3.mono hbW.size)⟩
          symm
          exact votesOk_no (k := k) (by rw [HV.out]; omega) (by rw [hgood.out]; simp [H1.out, h5]; omega)
      · have hd : decide ((0 : Int) < (k : Int)) = false := by simp; omega
        go_wp2_with fail
        have hbW := hbel.alloc hbel.size (.cells #[.int .i64 va, .int .i64 vb] 34)
        have c0 : (wr.alloc (.cells #[.int .i64 va, .int .i64 vb] 34)).cell? ⟨wr.heap.size, 0, none⟩ = some (.int .i64 va) := (Blk.new wr 34 #[.int .i64 va, .int .i64 vb]).cell 0
        have c1 : (wr.alloc (.cells #[.int .i64 va, .int .i64 vb] 34)).cell? ⟨wr.heap.size, 1, none⟩ = some (.int .i64 vb) := (Blk.new wr 34 #[.int .i64 va, .int .i64 vb]).cell 1
        clear hc0 hc1 hcp
        generalize wr.alloc (.cells #[.int .i64 va, .int .i64 vb] 34) = W0 at *
        have C0 := fun x : Lat W0 => x.cell c0
        have C1 := fun x : Lat W0 => x.cell c1
        refine wp_region_lat (by kernel_rfl) (by kernel_rfl) ?_
        repeat (go_big_quiet_step ((go_at_call 107; exact lat_call _ (voteOk_is va vb below true H1.out _))))
        refine wpQuiet_nil ?_
        rintro _ ⟨⟨w3, hb3⟩, rfl⟩
        clear C0 C1 c0 c1
        go_wp2
        go_roundw
        case rel =>
          refine ⟨k + 1, by omega, by go_num, fun j hj => ?_, hbW.trans (hb3.mono hbW.size)⟩
          by_cases e : j = k
          · rw [e, hgood.out]; simp [H1.out]; omega
          · exact hall.out j (by omega)
        case measure => simp [intOf]; omega
    · go_wp2
      go_ret
      refine ⟨ret_bool ?_, hbel⟩
      symm
      exact votesOk_yes fun j hj => hall.out j (by have := HV.out; omega)
end Go.Proofs.Ytfdfjmibjnmhpaa.V
