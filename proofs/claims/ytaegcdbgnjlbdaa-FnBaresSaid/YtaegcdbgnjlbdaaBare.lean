/-
  What Bare answers, of the model and of the program: contracts. No statement is proved here.
-/
import Derived.Test.YtaegcdbgnjlbdaaMarks
import Derived.Test.YtaegcdbgnjlbdaaImplMsgOk
set_option linter.unusedVariables false
set_option maxRecDepth 100000
namespace Go.Proofs.Ytaegcdbgnjlbdaa.V
open Go.RowKit Go.Proofs.Ytaegcdbgnjlbdaa.B

def bareB (k v x : Int) : Bool := decide (k ≠ 3) && msgOkB k v x 0 0 []
def bareR (k v x : Int) : Int × Int × Int × Bool := if bareB k v x then (k, v, x, true) else (0, 0, 0, false)

set_option maxHeartbeats 800000 in
theorem implBare_as (k v x ra rb rc : Int) (rq : Bool) (hres : bareR k v x = (ra, rb, rc, rq)) (w : World) :
    Calls Try.prog 16 #[.int .i64 k, .int .i64 v, .int .i64 x] w fun e w' => e = .returned (.tuple #[.agg #[.int .i64 ra, .int .i64 rb, .int .i64 rc, .int .i64 0, .int .i64 0, .slice none 0 0], .bool rq]) ∧ Below w.heap.size w w' := by
  unfold bareR bareB at hres
  by_cases h3 : k = 3
  · subst h3
    simp at hres
    obtain ⟨rfl, rfl, rfl, rfl⟩ := hres
    go_enter Try.func16, Try.ntmps16
    go_wp2
    refine bodyPost_ret (v := .tuple #[.agg #[.int .i64 0, .int .i64 0, .int .i64 0, .int .i64 0, .int .i64 0, .slice none 0 0], .bool false]) (by simp [results, Try.results16, go_sem]) rfl ⟨rfl, ?_⟩
    repeat (first | exact Below.refl _ _ | refine Below.setCell ?_ (by simp <;> omega) _ | refine Below.alloc ?_ (by simp <;> omega) _)
  · have h3' : (k == 3) = false := by rw [beq_eq_false_iff_ne]; exact h3
    obtain ⟨q, hq⟩ : ∃ q, msgOkB k v x 0 0 [] = q := ⟨_, rfl⟩
    rw [hq] at hres
    have hcon := fun W => implMsgOk_is q k v x 0 0 none 0 [] hq W Rd.nil_ (by simp)
    simp only [List.length_nil] at hcon
    have HCON := Lib.hid hcon; clear hcon
    have H3 := Lib.hid h3; clear h3 hq
    have hk6 := Blk.new w 27 #[.int .i64 0, .int .i64 0, .int .i64 0, .int .i64 0, .int .i64 0, .slice none 0 0]
    have hk8 := Blk.new (w.alloc (.cells #[.int .i64 0, .int .i64 0, .int .i64 0, .int .i64 0, .int .i64 0, .slice none 0 0] 27)) 27 #[.int .i64 k, .int .i64 v, .int .i64 x, .int .i64 0, .int .i64 0, .slice none 0 0]
    simp only [World.size_alloc] at hk8
    cases q
    · simp at hres
      obtain ⟨rfl, rfl, rfl, rfl⟩ := hres
      go_enter Try.func16, Try.ntmps16
      go_wp2_with fail
      refine (HCON.out _).mono ?_
      rintro e w1 ⟨rfl, hb1⟩
      have hr6 := ((hk6.alloc _).on hb1).rule
      have hr8 := (hk8.on hb1).rule
      have hf6 := fun i => ((hk6.alloc _).on hb1).frozen i
      have hz6 := ((hk6.alloc _).on hb1).lt
      have hB1 := on_ (up_ (up_ (Below.refl w.heap.size w) _) _) hb1
      clear hk6 hk8 hb1
      go_wp2
      refine bodyPost_ret (v := .tuple #[.agg #[.int .i64 0, .int .i64 0, .int .i64 0, .int .i64 0, .int .i64 0, .slice none 0 0], .bool false]) (by simp [results, Try.results16, go_sem, hr6]) rfl ⟨rfl, ?_⟩
      iterate 6 refine Below.setCell ?_ (by simp <;> omega) _
      exact hB1
    · have hd : (decide (k ≠ 3) && true) = true := by simp [H3.out]
      rw [hd] at hres
      simp at hres
      obtain ⟨rfl, rfl, rfl, rfl⟩ := hres
      go_enter Try.func16, Try.ntmps16
      go_wp2_with fail
      refine (HCON.out _).mono ?_
      rintro e w1 ⟨rfl, hb1⟩
      have hr6 := ((hk6.alloc _).on hb1).rule
      have hr8 := (hk8.on hb1).rule
      have hf6 := fun i => ((hk6.alloc _).on hb1).frozen i
      have hz6 := ((hk6.alloc _).on hb1).lt
      have hB1 := on_ (up_ (up_ (Below.refl w.heap.size w) _) _) hb1
      clear hk6 hk8 hb1
      go_wp2
      refine bodyPost_ret (v := .tuple #[.agg #[.int .i64 k, .int .i64 v, .int .i64 x, .int .i64 0, .int .i64 0, .slice none 0 0], .bool true]) (by simp [results, Try.results16, go_sem, hr6]) rfl ⟨rfl, ?_⟩
      iterate 6 refine Below.setCell ?_ (by simp <;> omega) _
      exact hB1
end Go.Proofs.Ytaegcdbgnjlbdaa.V
