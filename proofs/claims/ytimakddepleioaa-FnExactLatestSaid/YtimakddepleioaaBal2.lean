/-
  What the helpers of the laws do with tallies: copies, comparison, marks. No statement is proved here.
-/
import Derived.Test.YtimakddepleioaaBal3
import Derived.Test.YtimakddepleioaaBal
set_option linter.unusedVariables false
set_option maxRecDepth 100000
namespace Go.Proofs.Ytimakddepleioaa.B
open Go.RowKit
end Go.Proofs.Ytimakddepleioaa.B

namespace Go.Proofs.Ytimakddepleioaa.V
open Go.RowKit Go.Proofs.Ytimakddepleioaa.B

set_option maxRecDepth 100000 in
set_option maxHeartbeats 800000 in
theorem eqBallotS_same (A C : Option Addr) (c d : Nat) (vs : List B3) (w : World) (hr : Rd3 w w.heap.size A vs) (hs : Rd3 w w.heap.size C vs) (hn : vs.length ≤ 1048576) :
    Calls Try.prog 97 #[.slice A vs.length c, .slice C vs.length d] w fun e w' => e = .returned (.bool true) ∧ Below w.heap.size w w' := by
  obtain ⟨n, hvn⟩ : ∃ n, vs.length = n := ⟨_, rfl⟩
  rw [hvn] at hn ⊢
  have HV := Lib.hid hvn; clear hvn
  have hne : ∀ i : Int, (i != i) = false := fun i => by simp
  go_enter Try.func97, Try.ntmps97
  go_wp2
  go_loopw [5] (fun i wr => ∃ (k : Nat), k ≤ n ∧ i = .int .i64 k ∧ Below w.heap.size w wr) (fun i _ => n - (intOf i).toNat)
  case atStart => exact ⟨0, Nat.zero_le _, rfl, Below.refl _ _⟩
  case round =>
    obtain ⟨k, hk, rfl, hbel⟩ := hrel
    by_cases hlt : k < n
    · obtain ⟨b, off, rfl, hb, hc0, hc1, hc2⟩ := Rd3.at_ (hr.below hbel) (k := k) (by rw [HV.out]; omega)
      obtain ⟨b', off', rfl, hb', hc0', hc1', hc2'⟩ := Rd3.at_ (hs.below hbel) (k := k) (by rw [HV.out]; omega)
      clear hr hs
      obtain ⟨⟨va, vb, vc⟩, hu⟩ : ∃ u, vs.getD k z3 = u := ⟨_, rfl⟩
      rw [hu] at hc0 hc1 hc2 hc0' hc1' hc2'
      clear hu
      go_wp2
      go_still_tail 8, (by kernel_rfl)
      have hbd : Below w.heap.size w wr.drew := hbel.drew
      change wpList _ _ _ _ _ wr.drew
      generalize wr.drew = w2 at *
      go_wp2_with (go_at_call 106; refine (eqBallot_same _ _ _ _).mono ?_; rintro e w1 ⟨rfl, hb1⟩)
      go_roundw
      case rel => exact ⟨k + 1, by omega, by go_num, hbd.trans (hb1.mono hbd.size)⟩
      case measure => simp [intOf]; omega
    · go_wp2
      go_ret
      exact ⟨rfl, hbel⟩

theorem toTally_any (A : Option Addr) (c : Nat) (vs : List B3) (w : World) (hr : Rd3 w w.heap.size A vs) (hn : vs.length ≤ 1048576) :
    Calls Try.prog 65 #[.agg #[.slice A vs.length c]] w fun e w' => ∃ g cs, e = .returned (.agg #[.slice (some ⟨g, 0, none⟩) vs.length vs.length]) ∧ w.heap.size ≤ g ∧ Blk w' g 81 cs ∧ PC3 cs vs vs.length ∧ Below w.heap.size w w' := by
  have hr3 := ((hr.up (.cells #[.slice A vs.length c] 71)).up (.cells #[.slice none 0 0] 47)).up (.cells #[.slice none 0 0] 47)
  have ko := Blk.new ((w.alloc (.cells #[.slice A vs.length c] 71)).alloc (.cells #[.slice none 0 0] 47)) 47 #[.slice none 0 0]
  have kr := (Blk.new (w.alloc (.cells #[.slice A vs.length c] 71)) 47 #[.slice none 0 0]).alloc (.cells #[.slice none 0 0] 47)
  simp only [World.size_alloc] at ko kr
  have HR := Lib.hid hr3; clear hr3 hr
  go_enter Try.func65, Try.ntmps65
  go_wp2_with fail
  refine (toBallotS_any A c vs _ HR.out hn).mono ?_
  rintro e w1 ⟨g, cs, rfl, hg, hk, hp, hb1⟩
  have ko1 := ko.on hb1
  have kr1 := kr.on hb1
  have hB1 := on_ (up_ (up_ (up_ (Below.refl w.heap.size w) _) _) _) hb1
  have hs1 := hb1.size
  simp only [World.size_alloc] at hs1 hg
  have HP := Lib.hid hp
  clear hb1 ko kr hp
  have ro1 := ko1.rule
  have fo1 := fun i => ko1.frozen i
  have ko2 : Blk (w1.setCell ⟨w.heap.size + 1 + 1, 0, none⟩ (.slice (some ⟨g, 0, none⟩) vs.length vs.length)) (w.heap.size + 1 + 1) 47 #[.slice (some ⟨g, 0, none⟩) vs.length vs.length] := ko1.set_ 0 _
  have kr2 := kr1.far (p := ⟨w.heap.size + 1 + 1, 0, none⟩) (by simp) (.slice (some ⟨g, 0, none⟩) vs.length vs.length)
  have ro2 := ko2.rule
  have rr2 := kr2.rule
  have fr2 := fun i => kr2.frozen i
  have kr3 : Blk ((w1.setCell ⟨w.heap.size + 1 + 1, 0, none⟩ (.slice (some ⟨g, 0, none⟩) vs.length vs.length)).setCell ⟨w.heap.size + 1, 0, none⟩ (.slice (some ⟨g, 0, none⟩) vs.length vs.length)) (w.heap.size + 1) 47 #[.slice (some ⟨g, 0, none⟩) vs.length vs.length] := kr2.set_ 0 _
  have rr3 := kr3.rule
  go_wp2
  refine bodyPost_ret (v := .agg #[.slice (some ⟨g, 0, none⟩) vs.length vs.length]) (by simp [results, Try.results65, go_sem, rr3]) rfl ⟨g, cs, rfl, by omega, ?_, HP.out, ?_⟩
  · iterate 2 refine Blk.far ?_ (by simp; omega) _
    exact hk
  · iterate 2 refine Below.setCell ?_ (by simp <;> omega) _
    exact hB1

theorem eqTally_same (A C : Option Addr) (c d : Nat) (vs : List B3) (w : World) (hr : Rd3 w w.heap.size A vs) (hs : Rd3 w w.heap.size C vs) (hn : vs.length ≤ 1048576) :
    Calls Try.prog 79 #[.agg #[.slice A vs.length c], .agg #[.slice C vs.length d]] w fun e w' => e = .returned (.bool true) ∧ Below w.heap.size w w' := by
  have hr2 := (hr.up (.cells #[.slice A vs.length c] 47)).up (.cells #[.slice C vs.length d] 47)
  have hs2 := (hs.up (.cells #[.slice A vs.length c] 47)).up (.cells #[.slice C vs.length d] 47)
  have HR := Lib.hid hr2
  have HS := Lib.hid hs2
  clear hr2 hs2 hr hs
  go_enter Try.func79, Try.ntmps79
  go_wp2_with fail
  refine (eqBallotS_same A C c d vs _ HR.out HS.out hn).mono ?_
  rintro e w1 ⟨rfl, hb1⟩
  have hB1 := on_ (up_ (up_ (Below.refl w.heap.size w) _) _) hb1
  clear hb1
  go_wp2
  go_ret
  exact ⟨rfl, hB1⟩

/-- Only block g, and what is new, may have turned. -/
theorem only_set3 {a w : World} {g : Nat} (h : a.grownBy w (some g)) (i : Nat) (u : Value) : a.grownBy (w.setCell ⟨g, i, none⟩ u) (some g) :=
  ⟨h.os, h.tape, h.output, by simpa [World.setCell] using h.size, fun j hj hne => (Below.heap_setCell w ⟨g, i, none⟩ u j (by
    rintro rfl
    exact hne rfl)).trans (h.block j hj hne)⟩
theorem grown_alloc3 {w w' : World} {o : Obj} {row : Option Nat} (h : (w.alloc o).grownBy w' row) : w.grownBy w' row :=
  ⟨h.os, h.tape, h.output, Nat.le_trans (by simp) h.size, fun i hi hne => (h.block i (by simp; omega) hne).trans (Below.heap_alloc w o i hi)⟩

end Go.Proofs.Ytimakddepleioaa.V
