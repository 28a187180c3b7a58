/-
  StoreOk of the model and of the program: contracts. No statement is proved here.
-/
import Derived.Test.YtbogagddjkghhaaDoorStM
set_option linter.unusedVariables false
set_option maxRecDepth 100000
namespace Go.Proofs.YtbogagddjkghhaaDoor.V
open Go.RowKit Go.Proofs.YtbogagddjkghhaaDoor.B

theorem inB_yes {x : Int} (h : inB x = true) : 0 ≤ x ∧ x ≤ 1000 := by unfold inB at h; exact of_decide_eq_true h
theorem inB_no {x : Int} (h : inB x = false) : x < 0 ∨ 1000 < x := by unfold inB at h; have := of_decide_eq_false h; omega
theorem st_no_at {xs : List Int} {n : Int} {k : Nat} (hk : k < xs.length) (h : inB (xs.getD k 0) = false) : stB xs n = false := by
  unfold stB
  have : xs.all inB = false := by
    rw [List.all_eq_false]
    exact ⟨xs.getD k 0, by rw [List.getD_eq_getElem?_getD, List.getElem?_eq_getElem hk]; exact List.getElem_mem hk, by rw [h]; decide⟩
  rw [this, Bool.and_false]
theorem all_at {xs : List Int} (h : ∀ j, j < xs.length → inB (xs.getD j 0) = true) : xs.all inB = true := by
  rw [List.all_eq_true]
  intro x hx
  obtain ⟨i, hi, rfl⟩ := List.getElem_of_mem hx
  have := h i hi
  rwa [List.getD_eq_getElem?_getD, List.getElem?_eq_getElem hi] at this
theorem stB_yes {xs : List Int} {n : Int} (h : stB xs n = true) : xs.length = 4 ∧ 0 ≤ n ∧ n ≤ 1000 ∧ ∀ j, j < xs.length → 0 ≤ xs.getD j 0 ∧ xs.getD j 0 ≤ 1000 := by
  unfold stB at h
  rw [Bool.and_eq_true] at h
  have h1 := of_decide_eq_true h.1
  refine ⟨h1.1, h1.2.1, h1.2.2, fun j hj => ?_⟩
  have h2 := List.all_eq_true.1 h.2 (xs.getD j 0) (by rw [List.getD_eq_getElem?_getD, List.getElem?_eq_getElem hj]; exact List.getElem_mem hj)
  exact inB_yes h2
theorem st_end {xs : List Int} {n : Int} (h : ∀ j, j < xs.length → inB (xs.getD j 0) = true) : stB xs n = decide (xs.length = 4 ∧ 0 ≤ n ∧ n ≤ 1000) := by
  unfold stB; rw [all_at h, Bool.and_true]

set_option maxHeartbeats 1600000 in
theorem specStoreOk_any (A : Option Addr) (c : Nat) (xs : List Int) (n : Int) (w : World) (hr : RdI w w.heap.size A xs) (hn : xs.length ≤ 1048576) :
    Calls Tryd.prog 77 #[.agg #[.slice A xs.length c, .int .i64 n]] w fun e w' => e = .returned (.bool (stB xs n)) ∧ Below w.heap.size w w' := by
  obtain ⟨z, hz⟩ : ∃ z, stB xs n = z := ⟨_, rfl⟩
  rw [hz]
  have HZ := Lib.hid hz; clear hz
  obtain ⟨l, hl⟩ : ∃ l, xs.length = l := ⟨_, rfl⟩
  rw [hl] at hn ⊢
  have HL := Lib.hid hl; clear hl
  have ka := Blk.new w 46 #[.slice A l c, .int .i64 n]
  have hB := up_ (Below.refl w.heap.size w) (.cells #[.slice A l c, .int .i64 n] 46)
  have HRV := Lib.hid hr; clear hr
  have ra := ka.rule
  have hBH := Lib.hid hB
  go_enter Tryd.func77, Tryd.ntmps77
  go_wp2
  go_loopw [3] (fun i wr => ∃ (j : Nat), j ≤ l ∧ i = .int .i64 j ∧ Hid (∀ q, q < j → inB (xs.getD q 0) = true) ∧ Blk wr w.heap.size 46 #[.slice A l c, .int .i64 n] ∧ Below w.heap.size w wr) (fun i _ => l - (intOf i).toNat)
  case atStart => exact ⟨0, Nat.zero_le _, rfl, fun q hq => absurd hq (by omega), ka, hB⟩
  case round =>
    clear ra ka hB
    obtain ⟨j, hj, rfl, hall, ka, hB⟩ := hrel
    have ra := ka.rule
    by_cases hlj : j < l
    · obtain ⟨b0, off0, rfl, hb0, hc0⟩ := RdI.at_ (HRV.out.below hB) (k := j) (by rw [HL.out]; omega)
      obtain ⟨x, hx⟩ : ∃ x, xs.getD j 0 = x := ⟨_, rfl⟩
      rw [hx] at hc0
      have HX := Lib.hid hx; clear hx
      by_cases h1 : x < 0
      · have HN : Hid (z = false) := by
          show _ = _
          rw [← HZ.out]
          exact st_no_at (k := j) (by rw [HL.out]; exact hlj) (by rw [HX.out]; unfold inB; exact decide_eq_false (by omega))
        go_wp2
        go_ret
        exact ⟨ret_boolB (by rw [HN.out]), hB⟩
      · have h1' : 0 ≤ x := by omega
        by_cases h2 : 1000 < x
        · have HN : Hid (z = false) := by
            show _ = _
            rw [← HZ.out]
            exact st_no_at (k := j) (by rw [HL.out]; exact hlj) (by rw [HX.out]; unfold inB; exact decide_eq_false (by omega))
          go_wp2
          go_ret
          exact ⟨ret_boolB (by rw [HN.out]), hB⟩
        · have h2' : x ≤ 1000 := by omega
          have HA : Hid (∀ q, q < j + 1 → inB (xs.getD q 0) = true) := fun q hq => by
            rcases Nat.lt_succ_iff_lt_or_eq.1 hq with h | h
            · exact hall.out q h
            · rw [h, HX.out]; unfold inB; exact decide_eq_true (by omega)
          go_wp2
          go_roundw
          case rel => exact ⟨j + 1, by omega, by go_num, HA, ka, hB⟩
          case measure => simp [intOf]; omega
    · have hjl : j = l := by omega
      subst hjl
      have HE : Hid (z = decide (j = 4 ∧ 0 ≤ n ∧ n ≤ 1000)) := by
        show _ = _
        rw [← HZ.out, st_end (by rw [HL.out]; exact hall.out), HL.out]
      by_cases h4 : j = 4
      · subst h4
        by_cases h1 : 0 ≤ n
        · by_cases h2 : n ≤ 1000
          · go_wp2
            go_ret
            exact ⟨ret_boolB (by rw [HE.out]; symm; exact decide_eq_true ⟨trivial, h1, h2⟩), hB⟩
          · have h2' : 1000 < n := by omega
            go_wp2
            go_ret
            exact ⟨ret_boolB (by rw [HE.out]; symm; exact decide_eq_false (by omega)), hB⟩
        · have h1' : n < 0 := by omega
          go_wp2
          go_ret
          exact ⟨ret_boolB (by rw [HE.out]; symm; exact decide_eq_false (by omega)), hB⟩
      · have h4' : ((j : Int) == 4) = false := by simp; omega
        have HF : Hid (z = false) := by show _ = _; rw [HE.out]; exact decide_eq_false (by omega)
        go_wp2
        go_ret
        exact ⟨ret_boolB (by rw [HF.out]), hB⟩
theorem specStoreOk_is (q : Bool) (A : Option Addr) (c : Nat) (xs : List Int) (n : Int) (hq : stB xs n = q) (w : World) (hr : RdI w w.heap.size A xs) (hn : xs.length ≤ 1048576) :
    Calls Tryd.prog 77 #[.agg #[.slice A xs.length c, .int .i64 n]] w fun e w' => e = .returned (.bool q) ∧ Below w.heap.size w w' := by
  rw [← hq]; exact specStoreOk_any A c xs n w hr hn

/-! The program's: a library function with a function handed to it. -/
theorem clo7_any (x : Int) (w : World) : Calls Tryd.prog 103 #[.int .i64 x] w fun e w' => e = .returned (.bool (!inB x)) ∧ w' = w := by
  unfold inB
  by_cases h1 : 0 ≤ x
  · by_cases h2 : x ≤ 1000
    · go_enter Tryd.func103, Tryd.ntmps103
      go_wp2_with (go_in)
      go_ret
      exact ⟨ret_boolB (by simp [h1, h2]), rfl⟩
    · have h2' : 1000 < x := by omega
      go_enter Tryd.func103, Tryd.ntmps103
      go_wp2_with (go_in)
      go_ret
      exact ⟨ret_boolB (by simp; omega), rfl⟩
  · have h1' : x < 0 := by omega
    go_enter Tryd.func103, Tryd.ntmps103
    go_wp2_with (go_in)
    go_ret
    exact ⟨ret_boolB (by simp; omega), rfl⟩
theorem clo7_is (q : Bool) (x : Int) (hq : (!inB x) = q) (w : World) : Calls Tryd.prog 103 #[.int .i64 x] w fun e w' => e = .returned (.bool q) ∧ w' = w := by
  rw [← hq]; exact clo7_any x w
def outB (x : Int) : Bool := !inB x
theorem take_snoc7 (l : List Int) (d : Int) (k : Nat) (h : k < l.length) : l.take (k + 1) = l.take k ++ [l.getD k d] := by
  rw [List.take_add_one, List.getElem?_eq_getElem h]
  simp [List.getD_eq_getElem?_getD, List.getElem?_eq_getElem h]
theorem take_any7 (p : Int → Bool) (l : List Int) (j : Nat) (h : j < l.length) : (l.take (j + 1)).any p = ((l.take j).any p || p (l.getD j 0)) := by
  rw [take_snoc7 l 0 j h, List.any_append]
  simp
/-- The place of the first that is outside, or -1. -/
def Idx7 (z : Bool) (w : World) (e : Ending) (w' : World) : Prop := (∃ y : Int, -1 ≤ y ∧ y ≤ 1048576 ∧ decide (0 ≤ y) = z ∧ e = .returned (.int .i64 y)) ∧ w' = w
set_option maxHeartbeats 1600000 in
theorem index7 (A : Option Addr) (c : Nat) (xs : List Int) (w : World) (hr : RdI w w.heap.size A xs) (hn : xs.length ≤ 1048576) :
    Calls Tryd.prog 115 #[.slice A xs.length c, .func (.func 103) #[] #[]] w (Idx7 (xs.any outB) w) := by
  obtain ⟨z, hz⟩ : ∃ z, xs.any outB = z := ⟨_, rfl⟩
  rw [hz]
  have HZ := Lib.hid hz; clear hz
  obtain ⟨l, hl⟩ : ∃ l, xs.length = l := ⟨_, rfl⟩
  rw [hl] at hn ⊢
  have HL := Lib.hid hl; clear hl
  have HRV := Lib.hid hr; clear hr
  have HA := Lib.hid (fun j h => take_any7 outB xs j h)
  go_enter Tryd.func115, Tryd.ntmps115
  go_wp2
  go_loop [8] (fun i => ∃ (j : Nat), j ≤ l ∧ i = .int .i64 j ∧ Hid ((xs.take j).any outB = false)) (fun i => l - (intOf i).toNat)
  case atStart => exact ⟨0, Nat.zero_le _, rfl, by show _ = _; simp⟩
  case round =>
    obtain ⟨j, hj, rfl, hy⟩ := hrel
    by_cases hlj : j < l
    · obtain ⟨b', off', rfl, hb', hd0⟩ := RdI.at_ HRV.out (k := j) (by rw [HL.out]; omega)
      have hsa := HA.out j (by rw [HL.out]; exact hlj)
      rw [hy.out] at hsa
      obtain ⟨x, hx⟩ : ∃ x, xs.getD j 0 = x := ⟨_, rfl⟩
      rw [hx] at hd0 hsa
      obtain ⟨q, hq⟩ : ∃ q, outB x = q := ⟨_, rfl⟩
      rw [hq] at hsa
      simp only [Bool.false_or] at hsa
      have HSA := Lib.hid hsa
      have HQ := Lib.hid hq
      clear hsa hq hy hx
      cases q
      · go_wp2_with fail
        refine (clo7_is false x HQ.out _).mono ?_
        rintro e w1 ⟨rfl, rfl⟩
        go_wp2
        go_round
        case rel => exact ⟨j + 1, by omega, by go_num, HSA⟩
        case measure => simp [intOf]; omega
      · have HT : Hid (z = true) := by
          show _ = _
          rw [← HZ.out, List.any_eq_true]
          have := HSA.out
          rw [List.any_eq_true] at this
          obtain ⟨x, hx, hp⟩ := this
          exact ⟨x, List.mem_of_mem_take hx, hp⟩
        go_wp2_with fail
        refine (clo7_is true x HQ.out _).mono ?_
        rintro e w1 ⟨rfl, rfl⟩
        go_wp2
        go_ret
        exact ⟨⟨_, by omega, by omega, by rw [HT.out]; simp, rfl⟩, rfl⟩
    · have hjl : j = l := by omega
      subst hjl
      have HT : Hid (z = false) := by
        show _ = _
        rw [← HZ.out, ← hy.out, List.take_of_length_le (by rw [HL.out]; omega)]
      go_wp2
      go_ret
      exact ⟨⟨-1, by omega, by omega, by rw [HT.out]; rfl, rfl⟩, rfl⟩
theorem contains7 (z : Bool) (A : Option Addr) (c : Nat) (xs : List Int) (hz : xs.any outB = z) (w : World) (hr : RdI w w.heap.size A xs) (hn : xs.length ≤ 1048576) :
    Calls Tryd.prog 102 #[.slice A xs.length c, .func (.func 103) #[] #[]] w fun e w' => e = .returned (.bool z) ∧ w' = w := by
  have HI := Lib.hid (index7 A c xs w hr hn)
  rw [hz] at HI
  clear hr hz
  go_enter Tryd.func102, Tryd.ntmps102
  go_wp2_with fail
  refine HI.out.mono ?_
  rintro e w1 ⟨⟨y, hy1, hy2, hyz, rfl⟩, rfl⟩
  have HYZ := Lib.hid hyz; clear hyz
  go_wp2
  go_ret
  exact ⟨ret_boolB HYZ.out, rfl⟩
theorem all_not_any (xs : List Int) : xs.all inB = !(xs.any outB) := by
  induction xs with
  | nil => rfl
  | cons a l ih => simp only [List.all_cons, List.any_cons, ih, outB, Bool.not_or, Bool.not_not]
set_option maxHeartbeats 1600000 in
theorem implStoreOk_any (A : Option Addr) (c : Nat) (xs : List Int) (n : Int) (w : World) (hr : RdI w w.heap.size A xs) (hn : xs.length ≤ 1048576) :
    Calls Tryd.prog 59 #[.agg #[.slice A xs.length c, .int .i64 n]] w fun e w' => e = .returned (.bool (stB xs n)) ∧ Below w.heap.size w w' := by
  have ka := Blk.new w 46 #[.slice A xs.length c, .int .i64 n]
  have hB := up_ (Below.refl w.heap.size w) (.cells #[.slice A xs.length c, .int .i64 n] 46)
  have hr1 := hr.up (.cells #[.slice A xs.length c, .int .i64 n] 46)
  have hcon := fun z hz => contains7 z A c xs hz _ hr1 hn
  have HC := Lib.hid hcon
  clear hcon hr1 hr
  have e := all_not_any xs
  by_cases h4 : xs.length = 4
  · by_cases h1 : 0 ≤ n
    · by_cases h2 : n ≤ 1000
      · rcases hz : xs.any outB with _ | _
        all_goals
          have hz' : stB xs n = !(xs.any outB) := by unfold stB; rw [e, decide_eq_true (⟨h4, h1, h2⟩ : xs.length = 4 ∧ 0 ≤ n ∧ n ≤ 1000), Bool.true_and]
          rw [hz] at hz'
          rw [hz']
          have HZ := Lib.hid hz
          have h4' : ((xs.length : Int) != 4) = false := by simp; omega
          clear hz hz' e h4
          go_enter Tryd.func59, Tryd.ntmps59
          go_wp2_with fail
          refine (HC.out _ HZ.out).mono ?_
          rintro e w1 ⟨rfl, rfl⟩
          go_wp2
          go_ret
          exact ⟨rfl, hB⟩
      · have hz : stB xs n = false := by unfold stB; rw [decide_eq_false (show ¬(xs.length = 4 ∧ 0 ≤ n ∧ n ≤ 1000) by omega), Bool.false_and]
        rw [hz]
        have h4' : ((xs.length : Int) != 4) = false := by simp; omega
        have h2' : 1000 < n := by omega
        clear hz e h4 HC
        go_enter Tryd.func59, Tryd.ntmps59
        go_wp2
        go_ret
        exact ⟨rfl, hB⟩
    · have hz : stB xs n = false := by unfold stB; rw [decide_eq_false (show ¬(xs.length = 4 ∧ 0 ≤ n ∧ n ≤ 1000) by omega), Bool.false_and]
      rw [hz]
      have h4' : ((xs.length : Int) != 4) = false := by simp; omega
      have h2' : n < 0 := by omega
      clear hz e h4 HC
      go_enter Tryd.func59, Tryd.ntmps59
      go_wp2
      go_ret
      exact ⟨rfl, hB⟩
  · have hz : stB xs n = false := by unfold stB; rw [decide_eq_false (show ¬(xs.length = 4 ∧ 0 ≤ n ∧ n ≤ 1000) by omega), Bool.false_and]
    rw [hz]
    have h4' : ((xs.length : Int) != 4) = true := by simp; omega
    clear hz e h4 HC
    go_enter Tryd.func59, Tryd.ntmps59
    go_wp2
    go_ret
    exact ⟨rfl, hB⟩
theorem implStoreOk_is (q : Bool) (A : Option Addr) (c : Nat) (xs : List Int) (n : Int) (hq : stB xs n = q) (w : World) (hr : RdI w w.heap.size A xs) (hn : xs.length ≤ 1048576) :
    Calls Tryd.prog 59 #[.agg #[.slice A xs.length c, .int .i64 n]] w fun e w' => e = .returned (.bool q) ∧ Below w.heap.size w w' := by
  rw [← hq]; exact implStoreOk_any A c xs n w hr hn

end Go.Proofs.YtbogagddjkghhaaDoor.V
