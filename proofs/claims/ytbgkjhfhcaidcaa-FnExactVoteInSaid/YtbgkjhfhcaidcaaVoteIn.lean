/-
  What VoteIn answers, of the model and of the program: contracts. No statement is proved here.
-/
import Derived.Test.YtbgkjhfhcaidcaaSteps
import Derived.Test.YtbgkjhfhcaidcaaImplMsgOk
set_option linter.unusedVariables false
namespace Go.Proofs.Ytbgkjhfhcaidcaa.V
open Go.RowKit Go.Proofs.Ytbgkjhfhcaidcaa.B

/-- The value of the first vote of a view, and whether there is one. -/
def lookB (q : Bool) (vs : List (Int × Int)) (view : Int) : Int × Bool :=
  if q then (match vs.find? (fun p => p.1 == view) with | some p => (p.2, true) | none => (0, false)) else (0, false)

theorem look_none {vs : List (Int × Int)} {view : Int} (h : ∀ j, j < vs.length → (vs.getD j (0, 0)).1 ≠ view) : lookB true vs view = (0, false) := by
  unfold lookB
  rw [if_pos rfl]
  have : vs.find? (fun p => p.1 == view) = none := by
    rw [List.find?_eq_none]
    intro p hp
    obtain ⟨j, hj, rfl⟩ := List.mem_iff_getElem.1 hp
    have := h j hj
    simpa [List.getD, List.getElem?_eq_getElem hj] using this
  rw [this]
theorem look_some {vs : List (Int × Int)} {view y : Int} {k : Nat} (hk : k < vs.length) (h : ∀ j, j < k → (vs.getD j (0, 0)).1 ≠ view) (he : vs.getD k (0, 0) = (view, y)) : lookB true vs view = (y, true) := by
  unfold lookB
  rw [if_pos rfl]
  have hk' : vs[k] = (view, y) := by simpa [List.getD, List.getElem?_eq_getElem hk] using he
  have : vs.find? (fun p => p.1 == view) = some (view, y) := by
    rw [List.find?_eq_some_iff_getElem]
    refine ⟨by simp, k, hk, hk', fun j hj => ?_⟩
    have := h j hj
    have hl : j < vs.length := by omega
    simpa [List.getD, List.getElem?_eq_getElem hl] using this
  rw [this]
theorem ret_pair {a b : Int} {p q : Bool} (h : (a, p) = (b, q)) : Ending.returned (.tuple #[.int .i64 a, .bool p]) = .returned (.tuple #[.int .i64 b, .bool q]) := by
  injection h with h1 h2
  rw [h1, h2]

set_option maxHeartbeats 800000 in
theorem specVoteIn_is (q : Bool) (k v x a b view : Int) (A : Option Addr) (c : Nat) (vs : List (Int × Int)) (hq : msgOkB k v x a b vs = q) (w : World) (hr : Rd w w.heap.size A vs) (hn : vs.length ≤ 1048576) :
    Calls Try.prog 39 #[.agg #[.int .i64 k, .int .i64 v, .int .i64 x, .int .i64 a, .int .i64 b, .slice A vs.length c], .int .i64 view] w fun e w' => e = .returned (.tuple #[.int .i64 (lookB q vs view).1, .bool (lookB q vs view).2]) ∧ Below w.heap.size w w' := by
  have HQ := Lib.hid hq; clear hq
  have hr0 := fun O => hr.up O
  have HR := Lib.hid hr0; clear hr0 hr
  obtain ⟨n, hvn⟩ : ∃ n, vs.length = n := ⟨_, rfl⟩
  have hkm := Blk.new w 38 #[.int .i64 k, .int .i64 v, .int .i64 x, .int .i64 a, .int .i64 b, .slice A n c]
  have hcon := specMsgOk_is q k v x a b A c vs HQ.out
  rw [hvn] at hcon hn ⊢
  have HCON := Lib.hid hcon; clear hcon
  have HV := Lib.hid hvn; clear hvn
  cases q
  · go_enter Try.func39, Try.ntmps39
    go_wp2_with fail
    refine (HCON.out _ (HR.out _) hn).mono ?_
    rintro e w1 ⟨rfl, hb1⟩
    have hB1 := on_ (up_ (Below.refl w.heap.size w) _) hb1
    go_wp2
    go_ret2
    exact ⟨rfl, hB1⟩
  · go_enter Try.func39, Try.ntmps39
    go_wp2_with fail
    refine (HCON.out _ (HR.out _) hn).mono ?_
    rintro e w1 ⟨rfl, hb1⟩
    have hk1 := hkm.on hb1
    have hm1 := hk1.rule
    have hz1 := hk1.lt
    have hB1 := on_ (up_ (Below.refl w.heap.size w) _) hb1
    have hr1 := Rd.on (HR.out _) hb1
    clear hkm hb1
    go_wp2
    go_loopw [6] (fun i wr => ∃ (j : Nat), j ≤ n ∧ i = .int .i64 j ∧ Hid (∀ l, l < j → (vs.getD l (0, 0)).1 ≠ view) ∧ Below w1.heap.size w1 wr) (fun i _ => n - (intOf i).toNat)
    case atStart => exact ⟨0, Nat.zero_le _, rfl, fun l hl => absurd hl (by omega), Below.refl _ _⟩
    case round =>
      obtain ⟨j, hj, rfl, hall, hbel⟩ := hrel
      have hmr := (hk1.on hbel).rule
      have hzr := (hk1.on hbel).lt
      have hrr := Rd.on hr1 hbel
      have hBr := on_ hB1 hbel
      clear hr1 hm1 hk1
      by_cases hlt : j < n
      · obtain ⟨bl, off, rfl, hb, hc0, hc1⟩ := Rd.at_ hrr (k := j) (by rw [HV.out]; omega)
        clear hrr
        obtain ⟨⟨va, vb⟩, hv⟩ : ∃ u, vs.getD j (0, 0) = u := ⟨_, rfl⟩
        rw [hv] at hc0 hc1
        have HU := Lib.hid hv; clear hv
        by_cases he : va = view
        · subst he
          have hee : (va == va) = true := by simp
          go_wp2
          go_ret2
          exact ⟨ret_pair (look_some (by rw [HV.out]; omega) hall.out HU.out).symm, hBr⟩
        · have hee : (va == view) = false := by rw [beq_eq_false_iff_ne]; exact he
          have HE := Lib.hid he; clear he
          go_wp2
          go_roundw
          case rel =>
            refine ⟨j + 1, by omega, by go_num, fun l hl => ?_, hbel⟩
            by_cases e : l = j
            · rw [e, HU.out]; exact HE.out
            · exact hall.out l (by omega)
          case measure => simp [intOf]; omega
      · go_wp2
        go_ret2
        exact ⟨ret_pair (look_none fun l hl => hall.out l (by have := HV.out; omega)).symm, hBr⟩

set_option maxHeartbeats 800000 in
theorem implVoteIn_is (q : Bool) (k v x a b view : Int) (A : Option Addr) (c : Nat) (vs : List (Int × Int)) (hq : msgOkB k v x a b vs = q) (w : World) (hr : Rd w w.heap.size A vs) (hn : vs.length ≤ 1048576) :
    Calls Try.prog 40 #[.agg #[.int .i64 k, .int .i64 v, .int .i64 x, .int .i64 a, .int .i64 b, .slice A vs.length c], .int .i64 view] w fun e w' => e = .returned (.tuple #[.int .i64 (lookB q vs view).1, .bool (lookB q vs view).2]) ∧ Below w.heap.size w w' := by
  have HQ := Lib.hid hq; clear hq
  have hr0 := fun O => hr.up O
  have HR := Lib.hid hr0; clear hr0 hr
  obtain ⟨n, hvn⟩ : ∃ n, vs.length = n := ⟨_, rfl⟩
  have hkm := Blk.new w 38 #[.int .i64 k, .int .i64 v, .int .i64 x, .int .i64 a, .int .i64 b, .slice A n c]
  have hcon := implMsgOk_is q k v x a b A c vs HQ.out
  rw [hvn] at hcon hn ⊢
  have HCON := Lib.hid hcon; clear hcon
  have HV := Lib.hid hvn; clear hvn
  cases q
  · go_enter Try.func40, Try.ntmps40
    go_wp2_with fail
    refine (HCON.out _ (HR.out _) hn).mono ?_
    rintro e w1 ⟨rfl, hb1⟩
    have hB1 := on_ (up_ (Below.refl w.heap.size w) _) hb1
    go_wp2
    go_ret2
    exact ⟨rfl, hB1⟩
  · go_enter Try.func40, Try.ntmps40
    go_wp2_with fail
    refine (HCON.out _ (HR.out _) hn).mono ?_
    rintro e w1 ⟨rfl, hb1⟩
    have hk1 := hkm.on hb1
    have hm1 := hk1.rule
    have hz1 := hk1.lt
    have hB1 := on_ (up_ (Below.refl w.heap.size w) _) hb1
    have hr1 := Rd.on (HR.out _) hb1
    clear hkm hb1
    go_wp2
    go_loopw [14] (fun i wr => ∃ (j : Nat), j ≤ n ∧ i = .int .i64 j ∧ Hid (∀ l, l < j → (vs.getD l (0, 0)).1 ≠ view) ∧ Below w1.heap.size w1 wr) (fun i _ => n - (intOf i).toNat)
    case atStart => exact ⟨0, Nat.zero_le _, rfl, fun l hl => absurd hl (by omega), Below.refl _ _⟩
    case round =>
      obtain ⟨j, hj, rfl, hall, hbel⟩ := hrel
      have hmr := (hk1.on hbel).rule
      have hzr := (hk1.on hbel).lt
      have hrr := Rd.on hr1 hbel
      have hBr := on_ hB1 hbel
      clear hr1 hm1 hk1
      by_cases hlt : j < n
      · obtain ⟨bl, off, rfl, hb, hc0, hc1⟩ := Rd.at_ hrr (k := j) (by rw [HV.out]; omega)
        clear hrr
        obtain ⟨⟨va, vb⟩, hv⟩ : ∃ u, vs.getD j (0, 0) = u := ⟨_, rfl⟩
        rw [hv] at hc0 hc1
        have HU := Lib.hid hv; clear hv
        by_cases he : va = view
        · subst he
          have hee : (va == va) = true := by simp
          go_wp2
          go_ret2
          exact ⟨ret_pair (look_some (by rw [HV.out]; omega) hall.out HU.out).symm, up_ hBr _⟩
        · have hee : (va == view) = false := by rw [beq_eq_false_iff_ne]; exact he
          have HE := Lib.hid he; clear he
          go_wp2
          go_roundw
          case rel =>
            refine ⟨j + 1, by omega, by go_num, fun l hl => ?_, up_ hbel _⟩
            by_cases e : l = j
            · rw [e, HU.out]; exact HE.out
            · exact hall.out l (by omega)
          case measure => simp [intOf]; omega
      · go_wp2
        go_ret2
        exact ⟨ret_pair (look_none fun l hl => hall.out l (by have := HV.out; omega)).symm, hBr⟩

theorem specVoteIn_as (q rq : Bool) (ra : Int) (k v x a b view : Int) (A : Option Addr) (c : Nat) (vs : List (Int × Int)) (hq : msgOkB k v x a b vs = q) (hres : lookB q vs view = (ra, rq)) (w : World) (hr : Rd w w.heap.size A vs) (hn : vs.length ≤ 1048576) :
    Calls Try.prog 39 #[.agg #[.int .i64 k, .int .i64 v, .int .i64 x, .int .i64 a, .int .i64 b, .slice A vs.length c], .int .i64 view] w fun e w' => e = .returned (.tuple #[.int .i64 ra, .bool rq]) ∧ Below w.heap.size w w' := by
  have h := specVoteIn_is q k v x a b view A c vs hq w hr hn
  rw [hres] at h
  exact h

theorem implVoteIn_as (q rq : Bool) (ra : Int) (k v x a b view : Int) (A : Option Addr) (c : Nat) (vs : List (Int × Int)) (hq : msgOkB k v x a b vs = q) (hres : lookB q vs view = (ra, rq)) (w : World) (hr : Rd w w.heap.size A vs) (hn : vs.length ≤ 1048576) :
    Calls Try.prog 40 #[.agg #[.int .i64 k, .int .i64 v, .int .i64 x, .int .i64 a, .int .i64 b, .slice A vs.length c], .int .i64 view] w fun e w' => e = .returned (.tuple #[.int .i64 ra, .bool rq]) ∧ Below w.heap.size w w' := by
  have h := implVoteIn_is q k v x a b view A c vs hq w hr hn
  rw [hres] at h
  exact h
end Go.Proofs.Ytbgkjhfhcaidcaa.V
