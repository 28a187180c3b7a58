/-
  RepOk of the model and of the program answer alike: contracts. No statement is proved here.
-/
import Derived.Test.YtfdfjmibjnmhpaaQImpl3
import Derived.Test.YtfdfjmibjnmhpaaQSpec1
set_option linter.unusedVariables false
set_option maxRecDepth 100000
namespace Go.Proofs.Ytfdfjmibjnmhpaa.V
open Go.RowKit Go.Proofs.Ytfdfjmibjnmhpaa.B

theorem done_no0 {x : Int} (h : decide (0 ≤ x) = false) : doneQ x = false := by
  unfold doneQ valOkB; simp at h ⊢; omega
theorem done_no60 {x : Int} (h : decide (x ≤ 60) = false) : doneQ x = false := by
  unfold doneQ valOkB; simp at h ⊢; omega
theorem done_yes {x : Int} (h : decide (0 ≤ x) = true) (h2 : decide (x ≤ 60) = true) : doneQ x = true := by
  unfold doneQ valOkB; simp at h h2 ⊢; omega
theorem specRepOk_is (z : Bool) (q : Rq) (hz : repQ q.dat = z) (w : World) (hr : RdQ w w.heap.size q) (hf : FewQ q) :
    Calls Try.prog 36 #[q.agg] w fun e w' => e = .returned (.bool z) ∧ Below w.heap.size w w' := by
  have hz' : ((sizeB q.n && (decide (0 ≤ q.id) && (decide (q.id < q.n) && (valOkB q.own && (viewOkB q.view && (decide (1 ≤ q.left) && decide (q.left ≤ 3 + q.view))))))) && (votesOkB q.voted (q.view + 1) && (doneQ q.dn && (lockOkB q.lv q.lx (q.view + 1) && (talsQ q.dat && heardB q.n (hl q.hs)))))) = z := hz
  clear hz
  rcases hs_ : sizeB q.n with _ | _
  · obtain rfl : z = false := by rw [← hz']; simp [hs_]
    exact specRepOk_f0 q w hr hf hs_
  rcases h1 : decide (0 ≤ q.id) with _ | _
  · obtain rfl : z = false := by rw [← hz']; simp [h1]
    exact specRepOk_f1 q w hr hf hs_ h1
  rcases h2 : decide (q.id < q.n) with _ | _
  · obtain rfl : z = false := by rw [← hz']; simp [h2]
    exact specRepOk_f2 q w hr hf hs_ h1 h2
  rcases h3 : valOkB q.own with _ | _
  · obtain rfl : z = false := by rw [← hz']; simp [h3]
    exact specRepOk_f3 q w hr hf hs_ h1 h2 h3
  rcases h4 : viewOkB q.view with _ | _
  · obtain rfl : z = false := by rw [← hz']; simp [h4]
    exact specRepOk_f4 q w hr hf hs_ h1 h2 h3 h4
  rcases h5 : decide (1 ≤ q.left) with _ | _
  · obtain rfl : z = false := by rw [← hz']; simp [h5]
    exact specRepOk_f5 q w hr hf hs_ h1 h2 h3 h4 h5
  rcases h6 : decide (q.left ≤ 3 + q.view) with _ | _
  · obtain rfl : z = false := by rw [← hz']; simp [h6]
    exact specRepOk_f6 q w hr hf hs_ h1 h2 h3 h4 h5 h6
  rcases h7 : votesOkB q.voted (q.view + 1) with _ | _
  · obtain rfl : z = false := by rw [← hz']; simp [h7]
    exact specRepOk_f7 q w hr hf hs_ h1 h2 h3 h4 h5 h6 h7
  rcases h8 : decide (0 ≤ q.dn) with _ | _
  · obtain rfl : z = false := by rw [← hz']; simp [done_no0 h8]
    exact specRepOk_f8 q w hr hf hs_ h1 h2 h3 h4 h5 h6 h7 h8
  rcases h9 : decide (q.dn ≤ 60) with _ | _
  · obtain rfl : z = false := by rw [← hz']; simp [done_no60 h9]
    exact specRepOk_f9 q w hr hf hs_ h1 h2 h3 h4 h5 h6 h7 h8 h9
  exact specRepOk_rest z q w hr hf hs_ h1 h2 h3 h4 h5 h6 h7 h8 h9 (by rw [← hz']; rw [hs_, h1, h2, h3, h4, h5, h6, h7, done_yes h8 h9]; rfl)

theorem implRepOk_is (z : Bool) (q : Rq) (hz : repQ q.dat = z) (w : World) (hr : RdQ w w.heap.size q) (hf : FewQ q) :
    Calls Try.prog 42 #[q.agg] w fun e w' => e = .returned (.bool z) ∧ Below w.heap.size w w' := by
  have hz' : ((sizeB q.n && (decide (0 ≤ q.id) && (decide (q.id < q.n) && (valOkB q.own && (viewOkB q.view && (decide (1 ≤ q.left) && decide (q.left ≤ 3 + q.view))))))) && (votesOkB q.voted (q.view + 1) && (doneQ q.dn && (lockOkB q.lv q.lx (q.view + 1) && (talsQ q.dat && heardB q.n (hl q.hs)))))) = z := hz
  clear hz
  rcases hs_ : sizeB q.n with _ | _
  · obtain rfl : z = false := by rw [← hz']; simp [hs_]
    exact implRepOk_f0 q w hr hf hs_
  rcases h1 : decide (0 ≤ q.id) with _ | _
  · obtain rfl : z = false := by rw [← hz']; simp [h1]
    exact implRepOk_f1 q w hr hf hs_ h1
  rcases h2 : decide (q.id < q.n) with _ | _
  · obtain rfl : z = false := by rw [← hz']; simp [h2]
    exact implRepOk_f2 q w hr hf hs_ h1 h2
  rcases h3 : valOkB q.own with _ | _
  · obtain rfl : z = false := by rw [← hz']; simp [h3]
    exact implRepOk_f3 q w hr hf hs_ h1 h2 h3
  rcases h4 : viewOkB q.view with _ | _
  · obtain rfl : z = false := by rw [← hz']; simp [h4]
    exact implRepOk_f4 q w hr hf hs_ h1 h2 h3 h4
  rcases h5 : decide (1 ≤ q.left) with _ | _
  · obtain rfl : z = false := by rw [← hz']; simp [h5]
    exact implRepOk_f5 q w hr hf hs_ h1 h2 h3 h4 h5
  rcases h6 : decide (q.left ≤ 3 + q.view) with _ | _
  · obtain rfl : z = false := by rw [← hz']; simp [h6]
    exact implRepOk_f6 q w hr hf hs_ h1 h2 h3 h4 h5 h6
  rcases h7 : votesOkB q.voted (q.view + 1) with _ | _
  · obtain rfl : z = false := by rw [← hz']; simp [h7]
    exact implRepOk_f7 q w hr hf hs_ h1 h2 h3 h4 h5 h6 h7
  rcases h8 : lockOkB q.lv q.lx (q.view + 1) with _ | _
  · obtain rfl : z = false := by rw [← hz']; simp [h8]
    exact implRepOk_f8 q w hr hf hs_ h1 h2 h3 h4 h5 h6 h7 h8
  exact implRepOk_rest z q w hr hf hs_ h1 h2 h3 h4 h5 h6 h7 h8 (by rw [← hz']; rw [hs_, h1, h2, h3, h4, h5, h6, h7, h8]; simp)

end Go.Proofs.Ytfdfjmibjnmhpaa.V
