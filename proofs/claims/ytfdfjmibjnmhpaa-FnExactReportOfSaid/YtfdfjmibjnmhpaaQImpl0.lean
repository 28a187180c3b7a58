/-
  The tests that the program's talliesOk makes of ballots, each a closure: contracts. No statement is proved here.
-/
import Derived.Test.YtfdfjmibjnmhpaaQMath
import Derived.Test.YtfdfjmibjnmhpaaImplTallyOk
set_option linter.unusedVariables false
set_option maxRecDepth 100000
namespace Go.Proofs.Ytfdfjmibjnmhpaa.V
open Go.RowKit Go.Proofs.Ytfdfjmibjnmhpaa.B

def geB (n : Int) (u : B3) : Bool := !(below4 n u)
def nzB (u : B3) : Bool := !(zero4 u)
theorem any_not {α : Type} (p : α → Bool) (l : List α) : l.any (fun x => !(p x)) = !(l.all p) := by
  induction l with
  | nil => rfl
  | cons a l ih => simp only [List.any_cons, List.all_cons, ih]; cases p a <;> simp
theorem any_ge (n : Int) (l : List B3) : l.any (geB n) = !(l.all (below4 n)) := any_not _ l
theorem any_nz (l : List B3) : l.any nzB = !(l.all zero4) := any_not _ l
theorem take_any3 (p : B3 → Bool) (vs : List B3) (j : Nat) (h : j < vs.length) : (vs.take (j + 1)).any p = ((vs.take j).any p || p (vs.getD j z3)) := by
  rw [show vs.take (j + 1) = vs.take j ++ [vs.getD j z3] from take_getD vs z3 j h, List.any_append]
  simp
def Idx4 (z : Bool) (w : World) (e : Ending) (w' : World) : Prop := (∃ y : Int, -1 ≤ y ∧ y ≤ 1048576 ∧ decide (0 ≤ y) = z ∧ e = Ending.returned (.int .i64 y)) ∧ Below w.heap.size w w'
/-- The box of a replica's state, of which the number of replicas is read. -/
def CapN (w : World) (pr : Nat) (n : Int) : Prop := w.cell? ⟨pr, 0, none⟩ = some (.int .i64 n)
theorem CapN.on {w w' : World} {pr : Nat} {n : Int} (h : CapN w pr n) (hb : Below w.heap.size w w') : CapN w' pr n := (hb.cell (p := ⟨pr, 0, none⟩) (World.block_lt_of_cell? w _ h)).trans h

theorem clo_ge (ua ub uc n : Int) (pr : Nat) (w : World) (hc : CapN w pr n) :
    Calls Try.prog 110 #[.agg #[.int .i64 ua, .int .i64 ub, .int .i64 uc], .pointer (some ⟨pr, 0, none⟩)] w fun e w' => e = .returned (.bool (geB n (ua, ub, uc))) ∧ Below w.heap.size w w' := by
  have kv := World.block_lt_of_cell? w _ hc
  simp only at kv
  have hv0 : (w.alloc (.cells #[.int .i64 ua, .int .i64 ub, .int .i64 uc] 119)).cell? ⟨pr, 0, none⟩ = some (.int .i64 n) := (World.cell?_alloc_lt w _ ⟨pr, 0, none⟩ kv).trans hc
  unfold geB below4
  by_cases h1 : ua < n
  all_goals
    go_enter Try.func110, Try.ntmps110
    go_wp2
    go_ret
    exact ⟨ret_bool (by simp [h1] <;> omega), (Below.refl _ _).alloc (Nat.le_refl _) _⟩
theorem clo_nz (ua ub uc : Int) (w : World) :
    Calls Try.prog 111 #[.agg #[.int .i64 ua, .int .i64 ub, .int .i64 uc]] w fun e w' => e = .returned (.bool (nzB (ua, ub, uc))) ∧ Below w.heap.size w w' := by
  unfold nzB zero4
  by_cases h1 : ub = 0
  · subst h1
    go_enter Try.func111, Try.ntmps111
    go_wp2
    go_ret
    exact ⟨ret_bool (by simp), (Below.refl _ _).alloc (Nat.le_refl _) _⟩
  · have h1' : (ub == 0) = false := by simpa using h1
    have h1'' : (ub != 0) = true := by simpa using h1
    have H1 := Lib.hid h1; clear h1
    go_enter Try.func111, Try.ntmps111
    go_wp2
    go_ret
    exact ⟨ret_bool (by simp [H1.out]), (Below.refl _ _).alloc (Nat.le_refl _) _⟩

set_option maxHeartbeats 800000 in
theorem index_ge (n : Int) (pr : Nat) (A : Option Addr) (c : Nat) (vs : List B3) (w : World) (hr : Rd3 w w.heap.size A vs) (hn : vs.length ≤ 1048576) (hc : CapN w pr n) :
    Calls Try.prog 128 #[.slice A vs.length c, .func (.func 110) #[] #[.pointer (some ⟨pr, 0, none⟩)]] w (Idx4 (vs.any (geB n)) w) := by
  obtain ⟨z, hz⟩ : ∃ z, vs.any (geB n) = z := ⟨_, rfl⟩
  rw [hz]
  have HZ := Lib.hid hz; clear hz
  obtain ⟨l, hl⟩ : ∃ l, vs.length = l := ⟨_, rfl⟩
  rw [hl] at hn ⊢
  have HL := Lib.hid hl; clear hl
  have HRV := Lib.hid hr; clear hr
  have HC := Lib.hid hc; clear hc
  have HA := Lib.hid (fun j h => take_any3 (geB n) vs j h)
  go_enter Try.func128, Try.ntmps128
  go_wp2
  go_loopw [8] (fun i wr => ∃ (j : Nat), j ≤ l ∧ i = .int .i64 j ∧ Hid ((vs.take j).any (geB n) = false) ∧ Below w.heap.size w wr) (fun i _ => l - (intOf i).toNat)
  case atStart => exact ⟨0, Nat.zero_le _, rfl, by show _ = _; simp, Below.refl _ _⟩
  case round =>
    obtain ⟨j, hj, rfl, hy, hbel⟩ := hrel
    by_cases hlj : j < l
    · obtain ⟨b', off', rfl, hb', hd0, hd1, hd2⟩ := Rd3.at_ (HRV.out.below hbel) (k := j) (by rw [HL.out]; omega)
      have hsa := HA.out j (by rw [HL.out]; exact hlj)
      rw [hy.out] at hsa
      obtain ⟨⟨ua, ub, uc⟩, hu⟩ : ∃ u, vs.getD j z3 = u := ⟨_, rfl⟩
      rw [hu] at hd0 hd1 hd2 hsa
      simp only at hd0 hd1 hd2
      clear hu
      have hcall := clo_ge ua ub uc n pr wr (HC.out.on hbel)
      obtain ⟨q, hq⟩ : ∃ q, geB n (ua, ub, uc) = q := ⟨_, rfl⟩
      rw [hq] at hcall hsa
      simp only [Bool.false_or] at hsa
      have HSA := Lib.hid hsa
      have HCL := Lib.hid hcall
      clear hsa hcall hq hy
      cases q
      · go_wp2_with fail
        refine HCL.out.mono ?_
        rintro e w1 ⟨rfl, hb1⟩
        go_wp2
        go_roundw
        case rel => exact ⟨j + 1, by omega, by go_num, HSA, hbel.trans (hb1.mono hbel.size)⟩
        case measure => simp [intOf]; omega
      · have HT : Hid (z = true) := by
          show _ = _
          rw [← HZ.out, List.any_eq_true]
          have := HSA.out
          rw [List.any_eq_true] at this
          obtain ⟨x, hx, hp⟩ := this
          exact ⟨x, List.mem_of_mem_take hx, hp⟩
        go_wp2_with fail
        refine HCL.out.mono ?_
        rintro e w1 ⟨rfl, hb1⟩
        go_wp2
        go_ret
        exact ⟨⟨_, by omega, by omega, by rw [HT.out]; simp, rfl⟩, hbel.trans (hb1.mono hbel.size)⟩
    · have hjl : j = l := by omega
      subst hjl
      have HT : Hid (z = false) := by
        show _ = _
        rw [← HZ.out, ← hy.out, List.take_of_length_le (by rw [HL.out]; omega)]
      go_wp2
      go_ret
      exact ⟨⟨-1, by omega, by omega, by rw [HT.out]; rfl, rfl⟩, hbel⟩
theorem contains_ge (z : Bool) (n : Int) (pr : Nat) (A : Option Addr) (c : Nat) (vs : List B3) (hz : vs.any (geB n) = z) (w : World) (hr : Rd3 w w.heap.size A vs) (hn : vs.length ≤ 1048576) (hc : CapN w pr n) :
    Calls Try.prog 109 #[.slice A vs.length c, .func (.func 110) #[] #[.pointer (some ⟨pr, 0, none⟩)]] w fun e w' => e = .returned (.bool z) ∧ Below w.heap.size w w' := by
  have HI := Lib.hid (index_ge n pr A c vs w hr hn hc)
  rw [hz] at HI
  clear hr hc hz
  go_enter Try.func109, Try.ntmps109
  go_wp2_with fail
  refine HI.out.mono ?_
  rintro e w1 ⟨⟨y, hy1, hy2, hyz, rfl⟩, hb1⟩
  have HYZ := Lib.hid hyz; clear hyz
  go_wp2
  go_ret
  exact ⟨ret_bool HYZ.out, hb1⟩

set_option maxHeartbeats 800000 in
theorem index_nz (A : Option Addr) (c : Nat) (vs : List B3) (w : World) (hr : Rd3 w w.heap.size A vs) (hn : vs.length ≤ 1048576) :
    Calls Try.prog 128 #[.slice A vs.length c, .func (.func 111) #[] #[]] w (Idx4 (vs.any (nzB)) w) := by
  obtain ⟨z, hz⟩ : ∃ z, vs.any (nzB) = z := ⟨_, rfl⟩
  rw [hz]
  have HZ := Lib.hid hz; clear hz
  obtain ⟨l, hl⟩ : ∃ l, vs.length = l := ⟨_, rfl⟩
  rw [hl] at hn ⊢
  have HL := Lib.hid hl; clear hl
  have HRV := Lib.hid hr; clear hr
  have HA := Lib.hid (fun j h => take_any3 (nzB) vs j h)
  go_enter Try.func128, Try.ntmps128
  go_wp2
  go_loopw [8] (fun i wr => ∃ (j : Nat), j ≤ l ∧ i = .int .i64 j ∧ Hid ((vs.take j).any (nzB) = false) ∧ Below w.heap.size w wr) (fun i _ => l - (intOf i).toNat)
  case atStart => exact ⟨0, Nat.zero_le _, rfl, by show _ = _; simp, Below.refl _ _⟩
  case round =>
    obtain ⟨j, hj, rfl, hy, hbel⟩ := hrel
    by_cases hlj : j < l
    · obtain ⟨b', off', rfl, hb', hd0, hd1, hd2⟩ := Rd3.at_ (HRV.out.below hbel) (k := j) (by rw [HL.out]; omega)
      have hsa := HA.out j (by rw [HL.out]; exact hlj)
      rw [hy.out] at hsa
      obtain ⟨⟨ua, ub, uc⟩, hu⟩ : ∃ u, vs.getD j z3 = u := ⟨_, rfl⟩
      rw [hu] at hd0 hd1 hd2 hsa
      simp only at hd0 hd1 hd2
      clear hu
      have hcall := clo_nz ua ub uc wr
      obtain ⟨q, hq⟩ : ∃ q, nzB (ua, ub, uc) = q := ⟨_, rfl⟩
      rw [hq] at hcall hsa
      simp only [Bool.false_or] at hsa
      have HSA := Lib.hid hsa
      have HCL := Lib.hid hcall
      clear hsa hcall hq hy
      cases q
      · go_wp2_with fail
        refine HCL.out.mono ?_
        rintro e w1 ⟨rfl, hb1⟩
        go_wp2
        go_roundw
        case rel => exact ⟨j + 1, by omega, by go_num, HSA, hbel.trans (hb1.mono hbel.size)⟩
        case measure => simp [intOf]; omega
      · have HT : Hid (z = true) := by
          show _ = _
          rw [← HZ.out, List.any_eq_true]
          have := HSA.out
          rw [List.any_eq_true] at this
          obtain ⟨x, hx, hp⟩ := this
          exact ⟨x, List.mem_of_mem_take hx, hp⟩
        go_wp2_with fail
        refine HCL.out.mono ?_
        rintro e w1 ⟨rfl, hb1⟩
        go_wp2
        go_ret
        exact ⟨⟨_, by omega, by omega, by rw [HT.out]; simp, rfl⟩, hbel.trans (hb1.mono hbel.size)⟩
    · have hjl : j = l := by omega
      subst hjl
      have HT : Hid (z = false) := by
        show _ = _
        rw [← HZ.out, ← hy.out, List.take_of_length_le (by rw [HL.out]; omega)]
      go_wp2
      go_ret
      exact ⟨⟨-1, by omega, by omega, by rw [HT.out]; rfl, rfl⟩, hbel⟩
theorem contains_nz (z : Bool) (A : Option Addr) (c : Nat) (vs : List B3) (hz : vs.any (nzB) = z) (w : World) (hr : Rd3 w w.heap.size A vs) (hn : vs.length ≤ 1048576) :
    Calls Try.prog 109 #[.slice A vs.length c, .func (.func 111) #[] #[]] w fun e w' => e = .returned (.bool z) ∧ Below w.heap.size w w' := by
  have HI := Lib.hid (index_nz A c vs w hr hn)
  rw [hz] at HI
  clear hr hz
  go_enter Try.func109, Try.ntmps109
  go_wp2_with fail
  refine HI.out.mono ?_
  rintro e w1 ⟨⟨y, hy1, hy2, hyz, rfl⟩, hb1⟩
  have HYZ := Lib.hid hyz; clear hyz
  go_wp2
  go_ret
  exact ⟨ret_bool HYZ.out, hb1⟩

end Go.Proofs.Ytfdfjmibjnmhpaa.V
