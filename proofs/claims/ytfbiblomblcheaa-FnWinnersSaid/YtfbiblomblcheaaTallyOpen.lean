/-
  Faults, Strong, Weak and Open of the model: contracts. No statement is proved here.
-/
import Derived.Test.YtfbiblomblcheaaTallySilent
set_option linter.unusedVariables false
set_option maxRecDepth 100000
namespace Go.Proofs.Ytfbiblomblcheaa.V
open Go.RowKit Go.Proofs.Ytfbiblomblcheaa.B

def faultsR (n : Int) : Int := if sizeB n then n.tdiv 3 else -1
def strongR (n : Int) : Int := if sizeB n then n - n.tdiv 3 else -1
def weakR (n : Int) : Int := if sizeB n then n.tdiv 3 + 1 else -1
theorem size_two {n : Int} (h : sizeB n = true) : n = 4 ∨ n = 7 := by simpa [sizeB] using h

theorem specFaults_any (n : Int) (w : World) : Calls Try.prog 36 #[.int .i64 n] w fun e w' => e = .returned (.int .i64 (faultsR n)) ∧ w' = w := by
  rcases hs : sizeB n with _ | _
  · go_enter Try.func36, Try.ntmps36
    go_wp2_with (go_at_call 25; refine (specSize_is n false hs _).mono ?_; rintro e w0 ⟨rfl, rfl⟩)
    go_ret
    exact ⟨ret_int (by simp [faultsR, hs]), rfl⟩
  · rcases size_two hs with rfl | rfl
    all_goals
      go_enter Try.func36, Try.ntmps36
      go_wp2_with (go_at_call 25; refine (specSize_is _ true hs _).mono ?_; rintro e w0 ⟨rfl, rfl⟩)
      go_ret
      exact ⟨ret_int (by simp [faultsR, hs]), rfl⟩
theorem specStrong_any (n : Int) (w : World) : Calls Try.prog 37 #[.int .i64 n] w fun e w' => e = .returned (.int .i64 (strongR n)) ∧ w' = w := by
  rcases hs : sizeB n with _ | _
  · go_enter Try.func37, Try.ntmps37
    go_wp2_with (go_at_call 25; refine (specSize_is n false hs _).mono ?_; rintro e w0 ⟨rfl, rfl⟩)
    go_ret
    exact ⟨ret_int (by simp [strongR, hs]), rfl⟩
  · rcases size_two hs with rfl | rfl
    all_goals
      go_enter Try.func37, Try.ntmps37
      go_wp2_with (first | (go_at_call 25; refine (specSize_is _ true hs _).mono ?_; rintro e w0 ⟨rfl, rfl⟩) | go_in)
      go_ret
      exact ⟨ret_int (by simp [strongR, hs]), rfl⟩
theorem specWeak_any (n : Int) (w : World) : Calls Try.prog 38 #[.int .i64 n] w fun e w' => e = .returned (.int .i64 (weakR n)) ∧ w' = w := by
  rcases hs : sizeB n with _ | _
  · go_enter Try.func38, Try.ntmps38
    go_wp2_with (go_at_call 25; refine (specSize_is n false hs _).mono ?_; rintro e w0 ⟨rfl, rfl⟩)
    go_ret
    exact ⟨ret_int (by simp [weakR, hs]), rfl⟩
  · rcases size_two hs with rfl | rfl
    all_goals
      go_enter Try.func38, Try.ntmps38
      go_wp2_with (first | (go_at_call 25; refine (specSize_is _ true hs _).mono ?_; rintro e w0 ⟨rfl, rfl⟩) | go_in)
      go_ret
      exact ⟨ret_int (by simp [weakR, hs]), rfl⟩

theorem l2strong_is (n z : Int) (hs : sizeB n = true) (hz : strongR n = z) (w : World) : Calls Try.prog 77 #[.int .i64 n] w fun e w' => e = .returned (.int .i64 z) ∧ w' = w := by
  subst hz
  rcases size_two hs with rfl | rfl
  all_goals
    go_enter Try.func77, Try.ntmps77
    go_wp2
    go_ret
    exact ⟨ret_int (by simp [strongR, hs]), rfl⟩
def openF (n : Int) (vs : List B3) (view : Int) (k : Nat) : Bool := decide (strongR n ≤ (cntB vs view (k : Int) : Int) + ((silentR n vs view).length : Int))
def openR (n : Int) (vs : List B3) (view : Int) : Bool := sizeB n && (tallyOkB vs && (winN (openF n vs view) 1 60).isSome)
theorem cntB_le (vs : List B3) (view val : Int) : cntB vs view val ≤ vs.length := List.length_filter_le _ _

set_option maxHeartbeats 1600000 in
theorem specOpen_yes (n view : Int) (A : Option Addr) (c : Nat) (vs : List B3) (hsz : sizeB n = true) (hq : tallyOkB vs = true) (w : World) (hr : Rd3 w w.heap.size A vs) (hn : vs.length ≤ 1048576) :
    Calls Try.prog 60 #[.int .i64 n, .agg #[.slice A vs.length c], .int .i64 view] w fun e w' => e = .returned (.bool (winN (openF n vs view) 1 60).isSome) ∧ Below w.heap.size w w' := by
  obtain ⟨l, hvl⟩ : ∃ l, vs.length = l := ⟨_, rfl⟩
  obtain ⟨z, hz⟩ : ∃ z, strongR n = z := ⟨_, rfl⟩
  obtain ⟨s, hs⟩ : ∃ s, (silentR n vs view).length = s := ⟨_, rfl⟩
  have hz7 : z = 3 ∨ z = 5 := by
    rw [← hz]
    rcases size_two hsz with rfl | rfl
    · left; decide
    · right; decide
  have hsl : s ≤ 7 := hs ▸ silentR_le n vs view
  have hok := fun W h => specTallyOk_is true A c vs hq W h hn
  have hsil : ∀ W, Rd3 W W.heap.size A vs → Calls Try.prog 56 #[.int .i64 n, .agg #[.slice A vs.length c], .int .i64 view] W fun e w' => (∃ B d, e = .returned (.slice B s d)) ∧ Below W.heap.size W w' := fun W h => by
    refine (specSilent_any n view A c vs W h hn).mono ?_
    rintro e w' ⟨v, rfl, ho, hb⟩
    rw [hs] at ho
    obtain ⟨_, ⟨rfl, h0⟩ | ⟨g, cap, cur, rfl, _⟩⟩ := ho
    · exact ⟨⟨none, 0, by rw [h0]⟩, hb⟩
    · exact ⟨⟨_, _, rfl⟩, hb⟩
  have hcnt := fun val W h => l2count_any view val A c vs W h hn
  have hcl : ∀ val, cntB vs view val ≤ 1048576 := fun val => Nat.le_trans (cntB_le vs view val) hn
  rw [hvl] at hok hsil hcnt ⊢
  have HOK := Lib.hid hok; clear hok hq
  have HSIL := Lib.hid hsil; clear hsil
  have HCNT := Lib.hid hcnt; clear hcnt
  have HSTR := Lib.hid (fun W => l2strong_is n z hsz hz W)
  have HS := Lib.hid (fun W => specSize_is n true hsz W)
  have HZ := Lib.hid hz; clear hz hsz
  have HSL := Lib.hid hs; clear hs hvl hn
  have HB := Lib.hid (tally_box w A l c)
  have hr0 := hr.up (.cells #[.slice A l c] 29)
  have hs0 : (w.alloc (.cells #[.slice A l c] 29)).heap.size = w.heap.size + 1 := by simp
  have HR : Hid (∀ wr, Below (w.heap.size + 1) (w.alloc (.cells #[.slice A l c] 29)) wr → Rd3 wr wr.heap.size A vs ∧ w.heap.size + 1 ≤ wr.heap.size) := fun wr h => ⟨(hr.below (HB.out wr h).2).more (HB.out wr h).2.size, by have := h.size; omega⟩
  have HR0 := Lib.hid hr0
  clear hs0 hr hr0
  go_enter Try.func60, Try.ntmps60
  go_wp2_with (go_at_call 25; refine (HS.out _).mono ?_; rintro e w0 ⟨rfl, rfl⟩)
  refine (HOK.out _ HR0.out).mono ?_
  rintro e w1 ⟨rfl, hb1⟩
  have hbl1 : Below (w.heap.size + 1) (w.alloc (.cells #[.slice A l c] 29)) w1 := by simpa using hb1
  have rb1 := (HB.out w1 hbl1).1.rule
  clear hb1
  go_wp2_with fail
  refine (HSIL.out _ (HR.out _ hbl1).1).mono ?_
  rintro e w2 ⟨⟨B2, d2, rfl⟩, hb2⟩
  have hbl2 := hbl1.trans (hb2.mono (HR.out _ hbl1).2)
  clear hb2 rb1 hbl1
  go_wp2
  go_loopw [8] (fun v wr => ∃ (k : Nat), 1 ≤ k ∧ k ≤ 61 ∧ v = .int .i64 k ∧ Hid (∀ j, 1 ≤ j → j < k → openF n vs view j = false) ∧ Below (w.heap.size + 1) (w.alloc (.cells #[.slice A l c] 29)) wr) (fun v _ => 61 - (intOf v).toNat)
  case atStart => exact ⟨1, Nat.le_refl _, by omega, rfl, fun j h1 h2 => absurd h2 (by omega), hbl2⟩
  case round =>
    clear hbl2
    obtain ⟨k, hk1, hk, rfl, hall, hbel⟩ := hrel
    obtain ⟨kb, hbw⟩ := HB.out wr hbel
    obtain ⟨hr1, hsz⟩ := HR.out wr hbel
    have rb := kb.rule
    by_cases hlt : k ≤ 60
    · have hcnt := HCNT.out (k : Int) wr hr1
      have hq0 : openF n vs view k = decide (z ≤ (cntB vs view (k : Int) : Int) + (s : Int)) := by unfold openF; rw [HZ.out, HSL.out]
      have hle := hcl (k : Int)
      generalize cntB vs view (k : Int) = y at *
      clear hcl
      rcases hq : decide (z ≤ (y : Int) + (s : Int)) with _ | _
      · have HQ : Hid (openF n vs view k = false) := by show _ = _; rw [hq0, hq]
        clear hq0
        go_wp2_with fail
        refine hcnt.mono ?_
        rintro e w3 ⟨rfl, hb3⟩
        go_wp2_with (go_at_call 77; refine (HSTR.out _).mono ?_; rintro e w0 ⟨rfl, rfl⟩)
        go_roundw
        case rel => exact ⟨k + 1, by omega, by omega, by go_num, fun j h1 h2 => by
          by_cases e : j = k
          · subst e; exact HQ.out
          · exact hall.out j h1 (by omega), hbel.trans (hb3.mono hsz)⟩
        case measure => simp [intOf]; omega
      · have HW : Hid (winN (openF n vs view) 1 60 = some k) := winN_some hk1 (by omega) hall.out (by rw [hq0, hq])
        clear hq0
        go_wp2_with fail
        refine hcnt.mono ?_
        rintro e w3 ⟨rfl, hb3⟩
        go_wp2_with (go_at_call 77; refine (HSTR.out _).mono ?_; rintro e w0 ⟨rfl, rfl⟩)
        go_ret
        exact ⟨ret_boolB (by rw [HW.out]; rfl), hbw.trans (hb3.mono hbw.size)⟩
    · have HW : Hid (winN (openF n vs view) 1 60 = none) := winN_none fun j h1 h2 => hall.out j h1 (by omega)
      go_wp2
      go_ret
      exact ⟨ret_boolB (by rw [HW.out]; rfl), hbw⟩

theorem specOpen_any (n view : Int) (A : Option Addr) (c : Nat) (vs : List B3) (w : World) (hr : Rd3 w w.heap.size A vs) (hn : vs.length ≤ 1048576) :
    Calls Try.prog 60 #[.int .i64 n, .agg #[.slice A vs.length c], .int .i64 view] w fun e w' => e = .returned (.bool (openR n vs view)) ∧ Below w.heap.size w w' := by
  rcases hs : sizeB n with _ | _
  · have e : openR n vs view = false := by simp [openR, hs]
    rw [e]
    have HS := Lib.hid (fun W => specSize_is n false hs W)
    clear hs e hr
    go_enter Try.func60, Try.ntmps60
    go_wp2_with (go_at_call 25; refine (HS.out _).mono ?_; rintro e w0 ⟨rfl, rfl⟩)
    go_ret
    exact ⟨rfl, (Below.refl _ _).alloc (Nat.le_refl _) _⟩
  · rcases hq : tallyOkB vs with _ | _
    · have e : openR n vs view = false := by simp [openR, hq]
      rw [e]
      have hr0 := hr.up (.cells #[.slice A vs.length c] 29)
      have HR := Lib.hid hr0; clear hr0 hr
      have HQ := Lib.hid hq; clear hq e
      have HS := Lib.hid (fun W => specSize_is n true hs W)
      clear hs
      go_enter Try.func60, Try.ntmps60
      go_wp2_with (go_at_call 25; refine (HS.out _).mono ?_; rintro e w0 ⟨rfl, rfl⟩)
      refine (specTallyOk_is false A c vs HQ.out _ HR.out hn).mono ?_
      rintro e w1 ⟨rfl, hb1⟩
      have hB1 := on_ (up_ (Below.refl w.heap.size w) _) hb1
      clear hb1
      go_wp2
      go_ret
      exact ⟨rfl, hB1⟩
    · have e : openR n vs view = (winN (openF n vs view) 1 60).isSome := by simp [openR, hs, hq]
      rw [e]
      exact specOpen_yes n view A c vs hs hq w hr hn
end Go.Proofs.Ytfbiblomblcheaa.V
