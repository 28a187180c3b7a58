/-
  How many acts of a script are lies: contracts. No statement is proved here.
-/
import Derived.Test.YtfdfjmibjnmhpaaAct
set_option linter.unusedVariables false
set_option maxRecDepth 100000
namespace Go.Proofs.Ytfdfjmibjnmhpaa.V
open Go.RowKit Go.Proofs.Ytfdfjmibjnmhpaa.B
def lieD (a : Ad) : Bool := decide (a.k = 5)
def liK (xs : List Ap) (k : Nat) : Nat := (xs.take k).countP fun a => lieD a.dat
def liC (ds : List Ad) : Int := if ds.length ≤ 200 then (ds.countP lieD : Nat) else 0
theorem liK_step (xs : List Ap) (k : Nat) (h : k < xs.length) : liK xs (k + 1) = liK xs k + (if (xs.getD k zA).k = 5 then 1 else 0) := by
  unfold liK
  rw [take_getD xs zA k h, List.countP_append]
  by_cases e : (xs.getD k zA).k = 5
  · rw [if_pos e]; rw [List.getD_eq_getElem?_getD] at e; simp [lieD, Ap.dat, e]
  · rw [if_neg e]; rw [List.getD_eq_getElem?_getD] at e; simp [lieD, Ap.dat, e]
theorem liK_le (xs : List Ap) (k : Nat) : liK xs k ≤ k := by
  unfold liK
  exact Nat.le_trans List.countP_le_length (by simp; omega)
theorem liC_is (xs : List Ap) : liC (xs.map Ap.dat) = if xs.length ≤ 200 then (liK xs xs.length : Int) else 0 := by
  unfold liC liK
  rw [List.length_map, List.take_of_length_le (Nat.le_refl _), List.countP_map]
  rfl
set_option maxHeartbeats 1600000 in
theorem specLies_any (A : Option Addr) (c : Nat) (xs : List Ap) (w : World) (hr : RdK KA w w.heap.size A xs) (hn : xs.length ≤ 1048576) :
    Calls Try.prog 29 #[.slice A xs.length c] w fun e w' => e = .returned (.int .i64 (liC (xs.map Ap.dat))) ∧ Below w.heap.size w w' := by
  rw [liC_is]
  obtain ⟨n, hvn⟩ : ∃ n, xs.length = n := ⟨_, rfl⟩
  rw [hvn] at hn ⊢
  have HV := Lib.hid hvn; clear hvn
  by_cases hl : n ≤ 200
  · rw [if_pos hl]
    have d0 : decide ((n : Int) ≤ 200) = true := decide_eq_true (by omega)
    have d1 : decide ((200 : Int) < (n : Int)) = false := decide_eq_false (by omega)
    go_enter Try.func29, Try.ntmps29
    go_wp2
    go_loopw [3, 4] (fun a i wr => ∃ (k m : Nat), k ≤ n ∧ i = .int .i64 k ∧ a = .int .i64 m ∧ Hid (liK xs k = m) ∧ m ≤ k ∧ Below w.heap.size w wr) (fun _ i _ => n - (intOf i).toNat)
    case atStart => exact ⟨0, 0, Nat.zero_le _, rfl, rfl, rfl, Nat.le_refl _, Below.refl _ _⟩
    case round =>
      obtain ⟨k, m, hk, rfl, rfl, hm, hmk, hbel⟩ := hrel
      by_cases hlt : k < n
      · obtain ⟨b_, off, rfl, hb, hcs, hrv⟩ := RdK.at_ (hr.below hbel) (k := k) (by rw [HV.out]; omega)
        clear hr hrv
        change ∀ j, j < 4 → wr.cell? ⟨b_, off + k * 4 + j, none⟩ = (KA.cells (xs.getD k zA))[j]? at hcs
        have hst := liK_step xs k (by rw [HV.out]; omega)
        rw [hm.out] at hst
        obtain ⟨⟨ak, af, at_, abs, aA, ac⟩, hu⟩ : ∃ u, xs.getD k zA = u := ⟨_, rfl⟩
        rw [hu] at hcs hst
        have hc0 : wr.cell? ⟨b_, off + k * 4, none⟩ = some (.int .i64 ak) := hcs 0 (by decide)
        have hc1 : wr.cell? ⟨b_, off + k * 4 + 1, none⟩ = some (.int .i64 af) := hcs 1 (by decide)
        have hc2 : wr.cell? ⟨b_, off + k * 4 + 2, none⟩ = some (.int .i64 at_) := hcs 2 (by decide)
        have hc3 : wr.cell? ⟨b_, off + k * 4 + 3, none⟩ = some (.slice aA abs.length ac) := hcs 3 (by decide)
        have HST := Lib.hid hst
        clear hcs hu hst
        by_cases e5 : ak = 5
        · subst e5
          have HN : Hid (liK xs (k + 1) = m + 1) := by show _ = _; rw [HST.out]; rfl
          clear HST
          go_wp2
          go_roundw
          case rel => exact ⟨k + 1, m + 1, by omega, by go_num, by go_num, HN, by omega, hbel⟩
          case measure => simp [intOf]; omega
        · have e6 : (ak == 5) = false := by simpa using e5
          have HN : Hid (liK xs (k + 1) = m) := by show _ = _; rw [HST.out]; simp [e5]
          have HE5 := Lib.hid e5
          clear HST e5
          go_wp2
          go_roundw
          case rel => exact ⟨k + 1, m, by omega, by go_num, rfl, HN, by omega, hbel⟩
          case measure => simp [intOf]; omega
      · obtain rfl : k = n := by omega
        go_wp2
        go_ret
        exact ⟨by rw [hm.out]; rfl, hbel⟩
  · rw [if_neg hl]
    have d0 : decide ((n : Int) ≤ 200) = false := decide_eq_false (by omega)
    have d1 : decide ((200 : Int) < (n : Int)) = true := decide_eq_true (by omega)
    go_enter Try.func29, Try.ntmps29
    go_wp2
    refine wp_loop_rounds 1 ?_
    rw [rounds_succ]
    go_wp2
    go_ret
    exact ⟨rfl, Below.refl _ _⟩
set_option maxHeartbeats 1600000 in
theorem implLies_any (A : Option Addr) (c : Nat) (xs : List Ap) (w : World) (hr : RdK KA w w.heap.size A xs) (hn : xs.length ≤ 1048576) :
    Calls Try.prog 31 #[.slice A xs.length c] w fun e w' => e = .returned (.int .i64 (liC (xs.map Ap.dat))) ∧ Below w.heap.size w w' := by
  rw [liC_is]
  obtain ⟨n, hvn⟩ : ∃ n, xs.length = n := ⟨_, rfl⟩
  rw [hvn] at hn ⊢
  have HV := Lib.hid hvn; clear hvn
  by_cases hl : n ≤ 200
  · rw [if_pos hl]
    have d0 : decide ((n : Int) ≤ 200) = true := decide_eq_true (by omega)
    have d1 : decide ((200 : Int) < (n : Int)) = false := decide_eq_false (by omega)
    go_enter Try.func31, Try.ntmps31
    go_wp2
    go_loopw [3, 11] (fun a i wr => ∃ (k m : Nat), k ≤ n ∧ i = .int .i64 k ∧ a = .int .i64 m ∧ Hid (liK xs k = m) ∧ m ≤ k ∧ Below w.heap.size w wr) (fun _ i _ => n - (intOf i).toNat)
    case atStart => exact ⟨0, 0, Nat.zero_le _, rfl, rfl, rfl, Nat.le_refl _, Below.refl _ _⟩
    case round =>
      obtain ⟨k, m, hk, rfl, rfl, hm, hmk, hbel⟩ := hrel
      by_cases hlt : k < n
      · obtain ⟨b_, off, rfl, hb, hcs, hrv⟩ := RdK.at_ (hr.below hbel) (k := k) (by rw [HV.out]; omega)
        clear hr hrv
        change ∀ j, j < 4 → wr.cell? ⟨b_, off + k * 4 + j, none⟩ = (KA.cells (xs.getD k zA))[j]? at hcs
        have hst := liK_step xs k (by rw [HV.out]; omega)
        rw [hm.out] at hst
        obtain ⟨⟨ak, af, at_, abs, aA, ac⟩, hu⟩ : ∃ u, xs.getD k zA = u := ⟨_, rfl⟩
        rw [hu] at hcs hst
        have hc0 : wr.cell? ⟨b_, off + k * 4, none⟩ = some (.int .i64 ak) := hcs 0 (by decide)
        have hc1 : wr.cell? ⟨b_, off + k * 4 + 1, none⟩ = some (.int .i64 af) := hcs 1 (by decide)
        have hc2 : wr.cell? ⟨b_, off + k * 4 + 2, none⟩ = some (.int .i64 at_) := hcs 2 (by decide)
        have hc3 : wr.cell? ⟨b_, off + k * 4 + 3, none⟩ = some (.slice aA abs.length ac) := hcs 3 (by decide)
        have HST := Lib.hid hst
        clear hcs hu hst
        by_cases e5 : ak = 5
        · subst e5
          have HN : Hid (liK xs (k + 1) = m + 1) := by show _ = _; rw [HST.out]; rfl
          clear HST
          go_wp2
          go_roundw
          case rel => exact ⟨k + 1, m + 1, by omega, by go_num, by go_num, HN, by omega, hbel.alloc hbel.size _⟩
          case measure => simp [intOf]; omega
        · have e6 : (ak == 5) = false := by simpa using e5
          have HN : Hid (liK xs (k + 1) = m) := by show _ = _; rw [HST.out]; simp [e5]
          have HE5 := Lib.hid e5
          clear HST e5
          go_wp2
          go_roundw
          case rel => exact ⟨k + 1, m, by omega, by go_num, rfl, HN, by omega, hbel.alloc hbel.size _⟩
          case measure => simp [intOf]; omega
      · obtain rfl : k = n := by omega
        go_wp2
        go_ret
        exact ⟨by rw [hm.out]; rfl, hbel⟩
  · rw [if_neg hl]
    have d0 : decide ((n : Int) ≤ 200) = false := decide_eq_false (by omega)
    have d1 : decide ((200 : Int) < (n : Int)) = true := decide_eq_true (by omega)
    go_enter Try.func31, Try.ntmps31
    go_wp2
    go_ret
    exact ⟨rfl, Below.refl _ _⟩
end Go.Proofs.Ytfdfjmibjnmhpaa.V
