/-
  What TallyOk of the model answers: its contract. No statement is proved here.
-/
import Derived.Test.YtfdfjmibjnmhpaaBal2
import Derived.IntWalk
set_option linter.unusedVariables false
set_option maxRecDepth 100000
namespace Go.Proofs.Ytfdfjmibjnmhpaa.V
open Go.RowKit Go.Proofs.Ytfdfjmibjnmhpaa.B

def viewB (n : Int) : Bool := decide (0 ≤ n ∧ n ≤ 9)
def valB (n : Int) : Bool := decide (1 ≤ n ∧ n ≤ 60)
def cmp3 (p u : B3) : Int := if p.2.1 ≠ u.2.1 then (if p.2.1 < u.2.1 then -1 else 1) else if p.1 < u.1 then -1 else if u.1 < p.1 then 1 else 0
def b3Ok (u : B3) : Bool := decide (0 ≤ u.1 ∧ u.1 < 7) && viewB u.2.1 && valB u.2.2
def goodB (vs : List B3) (i : Nat) : Bool := b3Ok (vs.getD i z3) && (decide (i = 0) || decide (cmp3 (vs.getD (i - 1) z3) (vs.getD i z3) < 0))
def tallyOkB (vs : List B3) : Bool := (List.range vs.length).all (goodB vs)
theorem tallyOk_yes {vs : List B3} (h : ∀ j, j < vs.length → goodB vs j = true) : tallyOkB vs = true := by
  unfold tallyOkB
  rw [List.all_eq_true]
  intro j hj
  exact h j (List.mem_range.1 hj)
theorem tallyOk_no {vs : List B3} {k : Nat} (hk : k < vs.length) (h : goodB vs k = false) : tallyOkB vs = false := by
  unfold tallyOkB
  rw [List.all_eq_false]
  exact ⟨k, List.mem_range.2 hk, by simp [h]⟩

theorem specView3_is (n : Int) (q : Bool) (h : viewB n = q) (w : World) : Calls Try.prog 72 #[.int .i64 n] w fun e w' => e = .returned (.bool q) ∧ w' = w := by
  subst h
  unfold viewB
  by_cases h1 : 0 ≤ n
  · by_cases h2 : n ≤ 9
    all_goals
      go_enter Try.func72, Try.ntmps72
      go_wp2
      go_ret
      exact ⟨ret_boolB (by simp; try omega), rfl⟩
  · go_enter Try.func72, Try.ntmps72
    go_wp2
    go_ret
    exact ⟨ret_boolB (by simp; try omega), rfl⟩
theorem specVal3_is (n : Int) (q : Bool) (h : valB n = q) (w : World) : Calls Try.prog 71 #[.int .i64 n] w fun e w' => e = .returned (.bool q) ∧ w' = w := by
  subst h
  unfold valB
  by_cases h1 : 1 ≤ n
  · by_cases h2 : n ≤ 60
    all_goals
      go_enter Try.func71, Try.ntmps71
      go_wp2
      go_ret
      exact ⟨ret_boolB (by simp; try omega), rfl⟩
  · go_enter Try.func71, Try.ntmps71
    go_wp2
    go_ret
    exact ⟨ret_boolB (by simp; try omega), rfl⟩

theorem ballot_any (a b c : Int) (w : World) : Calls Try.prog 123 #[.agg #[.int .i64 a, .int .i64 b, .int .i64 c]] w fun e w' => e = .returned (.bool (b3Ok (a, b, c))) ∧ Below w.heap.size w w' := by
  unfold b3Ok
  by_cases h1 : 0 ≤ a
  · by_cases h2 : a < 7
    · rcases h3 : viewB b with _ | _
      · go_enter Try.func123, Try.ntmps123
        go_wp2_with (go_at_call 72; refine (specView3_is b false h3 _).mono ?_; rintro e w1 ⟨rfl, rfl⟩)
        go_ret
        exact ⟨ret_boolB (by simp), (Below.refl _ _).alloc (Nat.le_refl _) _⟩
      · rcases h4 : valB c with _ | _
        all_goals
          go_enter Try.func123, Try.ntmps123
          go_wp2_with (first | (go_at_call 72; refine (specView3_is b true h3 _).mono ?_; rintro e w1 ⟨rfl, rfl⟩) | (go_at_call 71; refine (specVal3_is c _ h4 _).mono ?_; rintro e w1 ⟨rfl, rfl⟩))
          go_ret
          exact ⟨ret_boolB (by simp [h1, h2]), (Below.refl _ _).alloc (Nat.le_refl _) _⟩
    · go_enter Try.func123, Try.ntmps123
      go_wp2
      go_ret
      exact ⟨ret_boolB (by simp; intro h; omega), (Below.refl _ _).alloc (Nat.le_refl _) _⟩
  · go_enter Try.func123, Try.ntmps123
    go_wp2
    go_ret
    exact ⟨ret_boolB (by simp; intro h; omega), (Below.refl _ _).alloc (Nat.le_refl _) _⟩
theorem ballot_is (q : Bool) (a b c : Int) (hq : b3Ok (a, b, c) = q) (w : World) : Calls Try.prog 123 #[.agg #[.int .i64 a, .int .i64 b, .int .i64 c]] w fun e w' => e = .returned (.bool q) ∧ Below w.heap.size w w' := by
  rw [← hq]; exact ballot_any a b c w

theorem ret_int {a b : Int} (h : a = b) : Ending.returned (.int .i64 a) = .returned (.int .i64 b) := by rw [h]
theorem cmp_any (a b c d e f : Int) (w : World) : Calls Try.prog 124 #[.agg #[.int .i64 a, .int .i64 b, .int .i64 c], .agg #[.int .i64 d, .int .i64 e, .int .i64 f]] w fun x w' => x = .returned (.int .i64 (cmp3 (a, b, c) (d, e, f))) ∧ Below w.heap.size w w' := by
  unfold cmp3
  go_enter Try.func124, Try.ntmps124
  go_wp2
  all_goals go_ret
  all_goals refine ⟨ret_int ?_, by repeat (first | exact Below.refl _ _ | refine Below.alloc ?_ (by simp) _)⟩
  all_goals (simp_all; try omega)
theorem cmp_is (q : Int) (a b c d e f : Int) (hq : cmp3 (a, b, c) (d, e, f) = q) (w : World) : Calls Try.prog 124 #[.agg #[.int .i64 a, .int .i64 b, .int .i64 c], .agg #[.int .i64 d, .int .i64 e, .int .i64 f]] w fun x w' => x = .returned (.int .i64 q) ∧ Below w.heap.size w w' := by
  rw [← hq]; exact cmp_any a b c d e f w

set_option maxHeartbeats 1600000 in
theorem specTallyOk_any (A : Option Addr) (c : Nat) (vs : List B3) (w : World) (hr : Rd3 w w.heap.size A vs) (hn : vs.length ≤ 1048576) :
    Calls Try.prog 103 #[.agg #[.slice A vs.length c]] w fun e w' => e = .returned (.bool (tallyOkB vs)) ∧ Below w.heap.size w w' := by
  obtain ⟨n, hvn⟩ : ∃ n, vs.length = n := ⟨_, rfl⟩
  rw [hvn] at hn ⊢
  have HV := Lib.hid hvn; clear hvn
  have kb := Blk.new w 37 #[.slice A n c]
  have HB : Hid (∀ wr, Below (w.heap.size + 1) (w.alloc (.cells #[.slice A n c] 37)) wr → Blk wr w.heap.size 37 #[.slice A n c] ∧ Below w.heap.size w wr) := fun wr h => ⟨kb.below h (by omega), Below.trans ((Below.refl _ _).alloc (Nat.le_refl _) _) (h.mono (by omega))⟩
  clear kb
  go_enter Try.func103, Try.ntmps103
  go_wp2
  go_loopw [3] (fun i wr => ∃ (k : Nat), k ≤ n ∧ i = .int .i64 k ∧ Hid (∀ j, j < k → goodB vs j = true) ∧ Below (w.heap.size + 1) (w.alloc (.cells #[.slice A n c] 37)) wr) (fun i _ => n - (intOf i).toNat)
  case atStart => exact ⟨0, Nat.zero_le _, rfl, fun j hj => absurd hj (by omega), Below.refl _ _⟩
  case round =>
    obtain ⟨k, hk, rfl, hall, hbel⟩ := hrel
    obtain ⟨kb, hbw⟩ := HB.out wr hbel
    have hsz := hbel.size
    simp only [World.size_alloc] at hsz
    have rb : wr.cell? ⟨w.heap.size, 0, none⟩ = some (.slice A n c) := kb.cell 0
    by_cases hlt : k < n
    · obtain ⟨b, off, rfl, hb, hc0, hc1, hc2⟩ := Rd3.at_ (hr.below hbw) (k := k) (by rw [HV.out]; omega)
      have hpv : 0 < k → wr.cell? ⟨b, off + (k - 1) * 3, none⟩ = some (.int .i64 (vs.getD (k - 1) z3).1) ∧ wr.cell? ⟨b, off + (k - 1) * 3 + 1, none⟩ = some (.int .i64 (vs.getD (k - 1) z3).2.1) ∧ wr.cell? ⟨b, off + (k - 1) * 3 + 2, none⟩ = some (.int .i64 (vs.getD (k - 1) z3).2.2) := fun h0 => by
        obtain ⟨b', off', he, _, h1, h2, h3⟩ := Rd3.at_ (hr.below hbw) (k := k - 1) (by rw [HV.out]; omega)
        injection he with he
        injection he with he1 he2
        subst he1 he2
        exact ⟨h1, h2, h3⟩
      clear hr
      obtain ⟨⟨ua, ub, uc⟩, hu⟩ : ∃ v, vs.getD k z3 = v := ⟨_, rfl⟩
      obtain ⟨⟨pa, pb, pc⟩, hp⟩ : ∃ v, vs.getD (k - 1) z3 = v := ⟨_, rfl⟩
      have HG : Hid (goodB vs k = (b3Ok (ua, ub, uc) && (decide (k = 0) || decide (cmp3 (pa, pb, pc) (ua, ub, uc) < 0)))) := by show _ = _; unfold goodB; rw [hu, hp]
      rw [hu] at hc0 hc1 hc2
      rw [hp] at hpv
      clear hu hp
      have T0 := fun x : Lat wr => x.cell rb
      have C0 := fun x : Lat wr => x.cell hc0
      have C1 := fun x : Lat wr => x.cell hc1
      have C2 := fun x : Lat wr => x.cell hc2
      rcases hq : b3Ok (ua, ub, uc) with _ | _
      · have HQ := Lib.hid hq; clear hq hpv
        go_wp2
        refine wp_region_lat (by kernel_rfl) (by kernel_rfl) ?_
        repeat (go_big_quiet_step ((first | (go_at_call 123; exact lat_call _ (ballot_is false _ _ _ HQ.out _)))))
        refine wpQuiet_nil ?_
        rintro w3 ⟨⟨_, hb3⟩, rfl⟩
        clear T0 C0 C1 C2
        go_wp2
        go_ret
        refine ⟨ret_boolB ?_, (HB.out _ (hbel.trans (hb3.mono hsz))).2⟩
        symm
        exact tallyOk_no (k := k) (by rw [HV.out]; omega) (by rw [HG.out]; simp [HQ.out])
      have HQ := Lib.hid hq; clear hq
      by_cases h4 : 0 < k
      · obtain ⟨hp0, hp1, hp2⟩ := hpv h4
        clear hpv
        obtain ⟨p, hkp⟩ : ∃ p, k = p + 1 := ⟨k - 1, by omega⟩
        have hE : (k : Int) - 1 = (p : Int) := by omega
        have hW : IntKind.i64.wrap (p : Int) = (p : Int) := IntWalk.i64_in _ (by omega)
        rw [show k - 1 = p by omega] at hp0 hp1 hp2
        have P0 := fun x : Lat wr => x.cell hp0
        have P1 := fun x : Lat wr => x.cell hp1
        have P2 := fun x : Lat wr => x.cell hp2
        have hw4 : (p : Int) < (n : Int) := by omega
        have hw5 : p < n := by omega
        have HKP := Lib.hid hkp; clear hkp
        obtain ⟨z, hz⟩ : ∃ z, cmp3 (pa, pb, pc) (ua, ub, uc) = z := ⟨_, rfl⟩
        have HC := Lib.hid hz; clear hz
        by_cases h5 : z < 0
        · have hd5 : decide (0 ≤ z) = false := by simp; omega
          go_wp2
          refine wp_region_lat (by kernel_rfl) (by kernel_rfl) ?_
          repeat (go_big_quiet_step ((first | (go_at_call 123; exact lat_call _ (ballot_is true _ _ _ HQ.out _)) | (go_at_call 124; exact lat_call _ (cmp_is z _ _ _ _ _ _ HC.out _)))))
          refine wpQuiet_nil ?_
          rintro w3 ⟨⟨_, hb3⟩, rfl⟩
          clear T0 C0 C1 C2 P0 P1 P2
          go_wp2
          go_roundw
          case rel =>
            refine ⟨k + 1, by omega, by go_num, fun j hj => ?_, hbel.trans (hb3.mono hsz)⟩
            by_cases e : j = k
            · rw [e, HG.out]; simp [HQ.out, HC.out, h5]
            · exact hall.out j (by omega)
          case measure => simp [intOf]; omega
        · have hd5 : decide (0 ≤ z) = true := by simp; omega
          go_wp2
          refine wp_region_lat (by kernel_rfl) (by kernel_rfl) ?_
          repeat (go_big_quiet_step ((first | (go_at_call 123; exact lat_call _ (ballot_is true _ _ _ HQ.out _)) | (go_at_call 124; exact lat_call _ (cmp_is z _ _ _ _ _ _ HC.out _)))))
          refine wpQuiet_nil ?_
          rintro w3 ⟨⟨_, hb3⟩, rfl⟩
          clear T0 C0 C1 C2 P0 P1 P2
          go_wp2
          go_ret
          refine ⟨ret_boolB ?_, (HB.out _ (hbel.trans (hb3.mono hsz))).2⟩
          symm
          exact tallyOk_no (k := k) (by rw [HV.out]; omega) (by rw [HG.out]; simp [HC.out, h5]; intro _; omega)
      · clear hpv
        have hd : decide ((0 : Int) < (k : Int)) = false := by simp; omega
        have HK0 : Hid (k = 0) := by show _ = _; omega
        go_wp2
        refine wp_region_lat (by kernel_rfl) (by kernel_rfl) ?_
        repeat (go_big_quiet_step ((first | (go_at_call 123; exact lat_call _ (ballot_is true _ _ _ HQ.out _)))))
        refine wpQuiet_nil ?_
        rintro w3 ⟨⟨_, hb3⟩, rfl⟩
        clear T0 C0 C1 C2
        go_wp2
        go_roundw
        case rel =>
          refine ⟨k + 1, by omega, by go_num, fun j hj => ?_, hbel.trans (hb3.mono hsz)⟩
          by_cases e : j = k
          · rw [e, HG.out]; simp [HQ.out, HK0.out]
          · exact hall.out j (by omega)
        case measure => simp [intOf]; omega
    · go_wp2
      go_ret
      refine ⟨ret_boolB ?_, hbw⟩
      symm
      exact tallyOk_yes fun j hj => hall.out j (by rw [HV.out] at hj; omega)
end Go.Proofs.Ytfdfjmibjnmhpaa.V
