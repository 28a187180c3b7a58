/-
  What the helpers of the laws do with messages: contracts of szMsg, toMsg and eqMsg. No statement is proved here.
-/
import Derived.Test.YtfdfjmibjnmhpaaGreatVotes
set_option linter.unusedVariables false
set_option maxRecDepth 100000
namespace Go.Proofs.YtfdfjmibjnmhpaaGreat.V
open Go.RowKit Go.Proofs.YtfdfjmibjnmhpaaGreat.B

theorem szMsg_any (k v x a b : Int) (A : Option Addr) (n c : Nat) (left : Int) (w : World) (hn : n ≤ maxLen) (h0 : 0 ≤ left) (h1 : left ≤ 1048576) :
    Calls Tryz.prog 68 #[.agg #[.int .i64 k, .int .i64 v, .int .i64 x, .int .i64 a, .int .i64 b, .slice A n c], .int .i64 left] w fun e w' => e = .returned (.int .i64 (if left < n then -1 else left - n)) ∧ Below w.heap.size w w' := by
  by_cases h : left < n
  · have hc : ∀ W, Calls Tryz.prog 65 #[.slice A n c, .int .i64 left] W fun e w' => e = .returned (.int .i64 (-1)) ∧ W = w' := fun W => by
      have := sz_any A n c left W hn h0 h1
      rwa [if_pos h] at this
    have HC := Lib.hid hc; clear hc
    rw [if_pos h]
    go_enter Tryz.func68, Tryz.ntmps68
    go_wp2_with (go_at_call 65; refine (HC.out _).mono ?_; rintro e w1 ⟨rfl, rfl⟩)
    go_ret
    exact ⟨rfl, (Below.refl _ _).alloc (Nat.le_refl _) _⟩
  · have hc : ∀ W, Calls Tryz.prog 65 #[.slice A n c, .int .i64 left] W fun e w' => e = .returned (.int .i64 (left - n)) ∧ W = w' := fun W => by
      have := sz_any A n c left W hn h0 h1
      rwa [if_neg h] at this
    have HC := Lib.hid hc; clear hc
    rw [if_neg h]
    go_enter Tryz.func68, Tryz.ntmps68
    go_wp2_with (go_at_call 65; refine (HC.out _).mono ?_; rintro e w1 ⟨rfl, rfl⟩)
    go_ret
    exact ⟨rfl, (Below.refl _ _).alloc (Nat.le_refl _) _⟩

set_option maxHeartbeats 400000 in
theorem toMsg_any (k v x a b : Int) (A : Option Addr) (c : Nat) (vs : List (Int × Int)) (w : World) (hr : Rd w w.heap.size A vs) (hn : vs.length ≤ 1048576) :
    Calls Tryz.prog 79 #[.agg #[.int .i64 k, .int .i64 v, .int .i64 x, .int .i64 a, .int .i64 b, .slice A vs.length c]] w fun e w' =>
      ∃ g cs, e = .returned (.agg #[.int .i64 k, .int .i64 v, .int .i64 x, .int .i64 a, .int .i64 b, .slice (some ⟨g, 0, none⟩) vs.length vs.length]) ∧ w.heap.size ≤ g ∧ Blk w' g 61 cs ∧ PC cs vs vs.length ∧ Below w.heap.size w w' := by
  go_enter Tryz.func79, Tryz.ntmps79
  go_wp2_with fail
  refine (toVote_any a b _).mono ?_
  rintro e w1 ⟨rfl, hb1⟩
  obtain ⟨hc1, hf1⟩ := bcell hb1
  have hz1 : w.heap.size + 2 < w1.heap.size := by have := hb1.size; simp at this; omega
  have hz1a : w.heap.size + 1 < w1.heap.size := by omega
  have hz1b : w.heap.size < w1.heap.size := by omega
  have hB1 : Below w.heap.size w w1 := Below.trans (by repeat (first | exact Below.refl _ _ | refine Below.alloc ?_ (by simp <;> omega) _ | refine Below.setCell ?_ (by simp <;> omega) _)) (hb1.mono (by simp; omega))
  have hr1 : Rd w1 w1.heap.size A vs := (hr.below hB1).more hB1.size
  clear hb1
  go_wp2_with fail
  refine (toVoteS_any A c vs _ ?_ hn).mono ?_
  · exact (hr.below (by repeat (first | exact hB1 | refine Below.setCell ?_ (by simp <;> omega) _))).more (by simp [World.setCell]; omega)
  rintro e w2 ⟨g, cs, rfl, hg, hk, hp, hb2⟩
  obtain ⟨hc2, hf2⟩ := bcell hb2
  have hz2 : w1.heap.size ≤ w2.heap.size := by have := hb2.size; simpa [World.setCell] using this
  have hz3 : w.heap.size + 2 < w2.heap.size := by omega
  have hz3a : w.heap.size + 1 < w2.heap.size := by omega
  have hz3b : w.heap.size < w2.heap.size := by omega
  have hg3 : w1.heap.size ≤ g := by simpa [World.setCell] using hg
  have hB2 : Below w.heap.size w w2 := Below.trans (by repeat (first | exact hB1 | refine Below.setCell ?_ (by simp <;> omega) _)) (hb2.mono (by simp [World.setCell]; omega))
  clear hb2 hr1 hB1 hg
  go_wp2
  refine bodyPost_ret (v := .agg #[.int .i64 k, .int .i64 v, .int .i64 x, .int .i64 a, .int .i64 b, .slice (some ⟨g, 0, none⟩) vs.length vs.length]) (by simp [results, Tryz.results79, go_sem, hc1, hc2, hz1a]) rfl ⟨g, cs, rfl, by omega, ?_, hp, ?_⟩
  · iterate 7 refine Blk.far ?_ (by simp; omega) _
    exact hk
  · iterate 7 refine Below.setCell ?_ (by simp <;> omega) _
    exact hB2

set_option maxHeartbeats 400000 in
theorem eqMsg_same (k v x a b : Int) (A C : Option Addr) (c d : Nat) (vs : List (Int × Int)) (w : World) (hr : Rd w w.heap.size A vs) (hs : Rd w w.heap.size C vs) (hn : vs.length ≤ 1048576) :
    Calls Tryz.prog 43 #[.agg #[.int .i64 k, .int .i64 v, .int .i64 x, .int .i64 a, .int .i64 b, .slice A vs.length c], .agg #[.int .i64 k, .int .i64 v, .int .i64 x, .int .i64 a, .int .i64 b, .slice C vs.length d]] w fun e w' => e = .returned (.bool true) ∧ Below w.heap.size w w' := by
  have hne : ∀ i : Int, (i != i) = false := fun i => by simp
  go_enter Tryz.func43, Tryz.ntmps43
  go_wp2_with fail
  refine (eqVote_is true a b a b (by simp) _).mono ?_
  rintro e w1 ⟨rfl, hb1⟩
  obtain ⟨hc1, hf1⟩ := bcell hb1
  have hz1a : w.heap.size + 1 < w1.heap.size := by have := hb1.size; simp at this; omega
  have hz1b : w.heap.size < w1.heap.size := by omega
  have hB1 : Below w.heap.size w w1 := Below.trans (((Below.refl _ _).alloc (Nat.le_refl _) _).alloc (by simp) _) (hb1.mono (by simp; omega))
  have hr1 : Rd w1 w1.heap.size A vs := (hr.below hB1).more hB1.size
  have hs1 : Rd w1 w1.heap.size C vs := (hs.below hB1).more hB1.size
  clear hb1 hr hs
  go_wp2_with fail
  refine (eqVoteS_same A C c d vs _ hr1 hs1 hn).mono ?_
  rintro e w2 ⟨rfl, hb2⟩
  have hB2 : Below w.heap.size w w2 := hB1.trans (hb2.mono hB1.size)
  go_wp2
  go_ret
  exact ⟨rfl, hB2⟩
end Go.Proofs.YtfdfjmibjnmhpaaGreat.V
