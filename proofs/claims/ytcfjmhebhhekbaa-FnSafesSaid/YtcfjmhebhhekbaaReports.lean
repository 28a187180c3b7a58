/-
  The helper 'reports' of the laws: its contract; and the bytes of a draw that the laws take themselves. No statement is proved here.
-/
import Derived.Test.YtcfjmhebhhekbaaBounds0
import Derived.Test.YtcfjmhebhhekbaaRepRow
import Derived.Test.YtcfjmhebhhekbaaCode
set_option linter.unusedVariables false
set_option maxRecDepth 100000
namespace Go.Proofs.Ytcfjmhebhhekbaa.V
open Go.RowKit Go.Proofs.Ytcfjmhebhhekbaa.B

theorem free_is_ (q : Bool) (n view : Int) (A : Option Addr) (c : Nat) (ps : List Pp) (hq : freeT n view (rl ps) = q) (w : World) (hr : RdR w w.heap.size A ps) (hf : Few ps) :
    Calls Try.prog 16 #[.int .i64 n, .int .i64 view, .slice A ps.length c] w fun e w' => e = .returned (.bool q) ∧ Below w.heap.size w w' := by
  rw [← hq]; exact implFree_any n view A c ps _ rfl w hr hf
theorem safe_is_ (q : Bool) (n view val : Int) (A : Option Addr) (c : Nat) (ps : List Pp) (hq : safeT n view (rl ps) val = q) (w : World) (hr : RdR w w.heap.size A ps) (hf : Few ps) :
    Calls Try.prog 13 #[.int .i64 n, .int .i64 view, .slice A ps.length c, .int .i64 val] w fun e w' => e = .returned (.bool q) ∧ Below w.heap.size w w' := by
  rw [← hq]; exact implSafe_any n view val A c ps _ rfl w hr hf
def bareP (f : Int) : Pp := ⟨⟨f, 0, 0, []⟩, none, 0⟩
theorem three_rd (w : World) : RdR (w.alloc (.cells #[.int .i64 0, .int .i64 0, .int .i64 0, .slice none 0 0, .int .i64 1, .int .i64 0, .int .i64 0, .slice none 0 0, .int .i64 3, .int .i64 0, .int .i64 0, .slice none 0 0] 28)) (w.alloc (.cells #[.int .i64 0, .int .i64 0, .int .i64 0, .slice none 0 0, .int .i64 1, .int .i64 0, .int .i64 0, .slice none 0 0, .int .i64 3, .int .i64 0, .int .i64 0, .slice none 0 0] 28)).heap.size (some ⟨w.heap.size, 0, none⟩) [bareP 0, bareP 1, bareP 3] := by
  have hk := Blk.new w 28 #[.int .i64 0, .int .i64 0, .int .i64 0, .slice none 0 0, .int .i64 1, .int .i64 0, .int .i64 0, .slice none 0 0, .int .i64 3, .int .i64 0, .int .i64 0, .slice none 0 0]
  refine fun _ => ⟨_, _, rfl, hk.lt, fun i hi => ?_⟩
  have hi3 : i < 3 := hi
  simp only [Nat.zero_add, four, hk.cell]
  rcases (by omega : i = 0 ∨ i = 1 ∨ i = 2) with rfl | rfl | rfl
  all_goals exact ⟨⟨rfl, rfl, rfl, rfl⟩, Rd.nil_⟩
theorem RdR.pre {w : World} {Bd : Nat} {A : Option Addr} {ps qs : List Pp} (h : RdR w Bd A (ps ++ qs)) : RdR w Bd A ps := fun h0 => by
  obtain ⟨b, off, e, hb, hc⟩ := h (by simp; omega)
  refine ⟨b, off, e, hb, fun i hi => ?_⟩
  have := hc i (by simp; omega)
  rwa [getD_app_lt hi] at this
theorem few_small {ps : List Pp} (h1 : ps.length ≤ 1048576) (h2 : ∀ p ∈ ps, p.r.vs = []) : Few ps := ⟨h1, fun i hi => by
  have hm : ps.getD i zP ∈ ps := by
    rw [List.getD_eq_getElem?_getD, List.getElem?_eq_getElem hi]
    exact List.getElem_mem hi
  rw [h2 _ hm]; simp⟩

set_option maxHeartbeats 800000 in
theorem reports_is (w : World) : Calls Try.prog 10 #[] w fun e w' => e = .returned (.bool true) ∧ Below w.heap.size w w' := by
  have hr := three_rd w
  have hf3 : Few [bareP 0, bareP 1, bareP 3] := few_small (by simp) (by intro p hp; simp [bareP] at hp; rcases hp with rfl | rfl | rfl <;> rfl)
  have hf2 : Few [bareP 0, bareP 1] := few_small (by simp) (by intro p hp; simp [bareP] at hp; rcases hp with rfl | rfl <;> rfl)
  have hB : Below w.heap.size w (w.alloc (.cells #[.int .i64 0, .int .i64 0, .int .i64 0, .slice none 0 0, .int .i64 1, .int .i64 0, .int .i64 0, .slice none 0 0, .int .i64 3, .int .i64 0, .int .i64 0, .slice none 0 0] 28)) := up_ (Below.refl _ _) _
  have HR := Lib.hid hr
  have HB := Lib.hid hB
  have HF3 := Lib.hid hf3
  have HF2 := Lib.hid hf2
  clear hr hB hf3 hf2
  go_enter Try.func10, Try.ntmps10
  go_wp2_with fail
  refine (free_is_ true 4 1 (some ⟨w.heap.size, 0, none⟩) 3 [bareP 0, bareP 1, bareP 3] three_free _ HR.out HF3.out).mono ?_
  rintro e w1 ⟨rfl, hb1⟩
  have hr1 := Lib.hid (HR.out.on hb1)
  have hB1 := Lib.hid (on_ HB.out hb1)
  clear hb1 HR HB
  go_wp2_with fail
  refine (safe_is_ true 4 1 7 (some ⟨w.heap.size, 0, none⟩) 3 [bareP 0, bareP 1, bareP 3] three_safe _ hr1.out HF3.out).mono ?_
  rintro e w2 ⟨rfl, hb2⟩
  have hr2 := Lib.hid (hr1.out.on hb2)
  have hB2 := Lib.hid (on_ hB1.out hb2)
  clear hb2 hr1 hB1
  go_wp2_with fail
  refine (free_is_ false 4 1 (some ⟨w.heap.size, 0, none⟩) 3 [bareP 0, bareP 1] two_free _ (RdR.pre (qs := [bareP 3]) hr2.out) HF2.out).mono ?_
  rintro e w3 ⟨rfl, hb3⟩
  go_wp2
  go_ret
  exact ⟨rfl, on_ hB2.out hb3⟩
theorem at_any (A : Option Addr) (n c i : Nat) (hi : i ≤ 1000) (w : World) (hm : n ≤ maxLen) (hr : RdC w w.heap.size A n) :
    Calls Try.prog 20 #[.slice A n c, .int .i64 i] w fun e w' => ∃ x : Nat, x ≤ 255 ∧ e = .returned (.int .i64 x) ∧ w = w' := by
  unfold maxLen at hm
  by_cases h0 : n = 0
  · subst h0
    go_enter Try.func20, Try.ntmps20
    go_wp2
    go_ret
    exact ⟨0, by omega, rfl, rfl⟩
  · obtain ⟨b, off, rfl, hb, hc⟩ := hr (by omega)
    obtain ⟨x, hx0, hx1, hx⟩ := hc (i % n) (Nat.mod_lt _ (by omega))
    obtain ⟨y, rfl⟩ : ∃ y : Nat, x = y := ⟨x.toNat, by omega⟩
    have hlt : i % n < n := Nat.mod_lt _ (by omega)
    have hmod : (i : Int).tmod (n : Int) = ((i % n : Nat) : Int) := by rw [Int.tmod_eq_emod_of_nonneg (by omega)]; simp
    have hmod2 : (i : Int) % (n : Int) = ((i % n : Nat) : Int) := by simp
    have hnz : (n : Int) ≠ 0 := by omega
    have hz : ((n : Int) == 0) = false := by simpa using hnz
    generalize i % n = k at *
    clear hc hr
    go_enter Try.func20, Try.ntmps20
    go_wp2
    go_ret
    exact ⟨y, by omega, rfl, rfl⟩
end Go.Proofs.Ytcfjmhebhhekbaa.V
