/-
  Two tallies that are the same, and the law's own small example: contracts. No statement is proved here.
-/
import Derived.Test.YtaegcdbgnjlbdaaTalMath
set_option linter.unusedVariables false
set_option maxRecDepth 100000
namespace Go.Proofs.Ytaegcdbgnjlbdaa.V
open Go.RowKit Go.Proofs.Ytaegcdbgnjlbdaa.B

theorem drawn_ {w w' : World} {B : Nat} (h : Below B w w') (k : Nat) : Below B w (w'.drewN k) := ⟨h.os, h.tape, h.output, h.size, h.block⟩
set_option maxHeartbeats 1600000 in
theorem sameTally_same (A C : Option Addr) (c d : Nat) (vs : List B3) (w : World) (hr : Rd3 w w.heap.size A vs) (hs : Rd3 w w.heap.size C vs) (hn : vs.length ≤ 1048576) :
    Calls Try.prog 29 #[.agg #[.slice A vs.length c], .agg #[.slice C vs.length d]] w fun e w' => e = .returned (.bool true) ∧ Below w.heap.size w w' := by
  have hr2 := (hr.up (.cells #[.slice A vs.length c] 44)).up (.cells #[.slice C vs.length d] 44)
  have hs2 := (hs.up (.cells #[.slice A vs.length c] 44)).up (.cells #[.slice C vs.length d] 44)
  obtain ⟨n, hvn⟩ : ∃ n, vs.length = n := ⟨_, rfl⟩
  rw [hvn] at hn hr2 hs2 ⊢
  have ka := (Blk.new w 44 #[.slice A n c]).alloc (.cells #[.slice C n d] 44)
  have kc := Blk.new (w.alloc (.cells #[.slice A n c] 44)) 44 #[.slice C n d]
  simp only [World.size_alloc] at kc
  obtain ⟨W2, hW2⟩ : ∃ W2, (w.alloc (.cells #[.slice A n c] 44)).alloc (.cells #[.slice C n d] 44) = W2 := ⟨_, rfl⟩
  have hs0 : W2.heap.size = w.heap.size + 2 := by rw [← hW2]; simp
  have hB0 : Below w.heap.size w W2 := by rw [← hW2]; exact up_ (up_ (Below.refl _ _) _) _
  rw [hW2] at hr2 hs2 ka kc
  have HB : Hid (∀ wr, Below W2.heap.size W2 wr → Blk wr w.heap.size 44 #[.slice A n c] ∧ Blk wr (w.heap.size + 1) 44 #[.slice C n d] ∧ Rd3 wr wr.heap.size A vs ∧ Rd3 wr wr.heap.size C vs ∧ Below w.heap.size w wr) := fun wr h =>
    ⟨ka.on h, kc.on h, hr2.on h, hs2.on h, hB0.trans (h.mono (by omega))⟩
  have HV := Lib.hid hvn; clear hvn
  have HW2 := Lib.hid hW2; clear hW2
  clear hr2 hs2 ka kc hr hs hB0
  go_enter Try.func29, Try.ntmps29
  go_wp2
  rw [HW2.out]
  go_loopw [5] (fun i wr => ∃ (k : Nat), k ≤ n ∧ i = .int .i64 k ∧ Below W2.heap.size W2 wr) (fun i _ => n - (intOf i).toNat)
  case atStart => exact ⟨0, Nat.zero_le _, rfl, Below.refl _ _⟩
  case round =>
    obtain ⟨k, hk, rfl, hbel⟩ := hrel
    obtain ⟨ka, kc, hr, hs, hbw⟩ := HB.out wr hbel
    have ra := ka.rule
    have rc := kc.rule
    by_cases hlt : k < n
    · obtain ⟨b, off, rfl, hb, hc0, hc1, hc2⟩ := Rd3.at_ hr (k := k) (by rw [HV.out]; omega)
      obtain ⟨b', off', rfl, hb', hc0', hc1', hc2'⟩ := Rd3.at_ hs (k := k) (by rw [HV.out]; omega)
      clear hr hs
      obtain ⟨⟨va, vb, vc⟩, hu⟩ : ∃ u, vs.getD k z3 = u := ⟨_, rfl⟩
      rw [hu] at hc0 hc1 hc2 hc0' hc1' hc2'
      clear hu
      have a1 : (0 : Int) ≤ (k : Int) := by omega
      have a2 : (k : Int) < (n : Int) := by omega
      go_wp2
      go_quiet (fail)
      go_wp2
      go_roundw
      case rel => exact ⟨k + 1, by omega, by go_num, drawn_ hbel _⟩
      case measure => simp [intOf]; omega
    · have hf : decide ((k : Int) < (n : Int)) = false := by simp; omega
      go_wp2
      go_ret
      exact ⟨rfl, hbw⟩
/-- The law's own example. -/
theorem tallies_any (w : World) : Calls Try.prog 21 #[] w fun e w' => e = .returned (.bool true) ∧ Below w.heap.size w w' := by
  have e1 : addU [] (1, 0, 5) = [(1, 0, 5)] := by decide
  have e2 : addQ [] (1, 0, 5) = true := by decide
  have e3 : addU [(1, 0, 5)] (1, 0, 6) = [(1, 0, 5)] := by decide
  have e4 : addQ [(1, 0, 5)] (1, 0, 6) = false := by decide
  have e5 : countR [(1, 0, 5)] 0 5 = 1 := by decide
  have e6 : countR [(1, 0, 5)] 0 6 = 0 := by decide
  have h1 := fun W => implTallyAdd_go 1 0 5 none 0 [] W Rd3.nil_ (by simp)
  rw [e1, e2] at h1
  have h2 := fun A c W hr => implTallyAdd_go 1 0 6 A c [(1, 0, 5)] W hr (by simp)
  rw [e3, e4] at h2
  have h3 := fun A c W hr => implCount_any 0 5 (wf_nat (k := 0) (by omega)) A c [(1, 0, 5)] W hr (by simp)
  rw [e5] at h3
  have h4 := fun A c W hr => implCount_any 0 6 (wf_nat (k := 0) (by omega)) A c [(1, 0, 5)] W hr (by simp)
  rw [e6] at h4
  have H1 := Lib.hid h1; have H2 := Lib.hid h2; have H3 := Lib.hid h3; have H4 := Lib.hid h4
  clear h1 h2 h3 h4 e1 e2 e3 e4 e5 e6
  go_enter Try.func21, Try.ntmps21
  go_wp2_with fail
  refine (H1.out _).mono ?_
  rintro e w1 ⟨B1, d1, rfl, ho1, hb1⟩
  have hr1 := ho1.rd
  clear ho1
  go_wp2_with fail
  refine (H2.out _ _ _ (hr1.up _)).mono ?_
  rintro e w2 ⟨B2, d2, rfl, ho2, hb2⟩
  have hr2 := ho2.rd
  have hB2 := on_ (up_ hb1 _) hb2
  clear hr1 ho2 hb1 hb2
  go_wp2_with fail
  refine (H3.out _ _ _ (hr2.up _)).mono ?_
  rintro e w3 ⟨rfl, hb3⟩
  have hr3 := (hr2.up (.cells #[.slice B2 1 d2] 44)).on hb3
  have hk3 := (Blk.new w2 44 #[.slice B2 1 d2]).on hb3
  have hB3 := on_ (up_ hB2 _) hb3
  have rk3 := hk3.rule
  clear hr2 hB2 hb3
  go_wp2_with fail
  refine (H4.out _ _ _ hr3).mono ?_
  rintro e w4 ⟨rfl, hb4⟩
  go_wp2
  go_ret
  exact ⟨rfl, on_ hB3 hb4⟩
end Go.Proofs.Ytaegcdbgnjlbdaa.V
