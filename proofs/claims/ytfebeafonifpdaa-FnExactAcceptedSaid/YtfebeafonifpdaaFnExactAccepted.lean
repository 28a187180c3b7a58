/-
  Proved here: for whatever numbers and replies, Accepted of the program answers as Accepted of the model, and the replies read afterwards as before. No condition.
-/
import Derived.Test.YtfebeafonifpdaaRows
import Derived.Test.YtfebeafonifpdaaDoor
import Derived.Test.YtfebeafonifpdaaAccP
import Derived.Test.YtfebeafonifpdaaLift3
set_option linter.unusedVariables false
set_option maxRecDepth 100000
namespace Go.Proofs.Ytfebeafonifpdaa.fnExactAccepted
open Go.RowKit Go.ChangeShapes Go.WideShapes Go.Proofs.Ytfebeafonifpdaa.B Go.Proofs.Ytfebeafonifpdaa.V

set_option maxHeartbeats 1600000 in
theorem walk0 (n seq : Int) (A : Option Addr) (c : Nat) (rs : List B3) (r0 : Int) (r1 : Bool) (w : World) (hm : rs.length ≤ maxLen) (hr : Rd3 w w.heap.size A rs) (hsp : (rs.length ≤ 1048576 → ∀ (A : Option Addr) (W : World), Rd3 W W.heap.size A rs → Calls Try.prog 53 #[.int .i64 n, .slice A rs.length rs.length, .int .i64 seq] W fun e w' => e = .returned (.tuple #[.int .i64 r0, .bool r1]) ∧ Below W.heap.size W w')) (him : (rs.length ≤ 1048576 → ∀ (A : Option Addr) (W : World), Rd3 W W.heap.size A rs → Calls Try.prog 34 #[.int .i64 n, .slice A rs.length rs.length, .int .i64 seq] W fun e w' => e = .returned (.tuple #[.int .i64 r0, .bool r1]) ∧ Below W.heap.size W w')) :
    Calls Try.prog 14 #[.int .i64 n, .slice A rs.length c, .int .i64 seq] w fun e w' => e = .returned (.bool true) ∧ Below w.heap.size w w' := by
  have hne : (r0 != r0) = false := by simp
  have hnb : (r1 != r1) = false := by simp
  have hsz : ∀ W, Calls Try.prog 52 #[.slice A rs.length c, .int .i64 1048576] W fun e w' => e = .returned (.int .i64 (if (1048576 : Int) < rs.length then -1 else 1048576 - rs.length)) ∧ W = w' := fun W => szB_any A rs.length c 1048576 W hm (by omega) (by omega)
  have HSZ := Lib.hid hsz; clear hsz hm
  by_cases hn : (1048576 : Int) < rs.length
  · have H1 : Hid (∀ W, Calls Try.prog 52 #[.slice A rs.length c, .int .i64 1048576] W fun e w' => e = .returned (.int .i64 (-1)) ∧ W = w') := fun W => by have := HSZ.out W; rwa [if_pos hn] at this
    clear HSZ hsp him
    go_enter Try.func14, Try.ntmps14
    go_wp2_with fail
    refine (H1.out _).mono ?_
    rintro e w1 ⟨rfl, rfl⟩
    go_wp2
    go_ret
    exact ⟨rfl, Below.refl _ _⟩
  · have hn' : rs.length ≤ 1048576 := by omega
    have H1 : Hid (∀ W, Calls Try.prog 52 #[.slice A rs.length c, .int .i64 1048576] W fun e w' => e = .returned (.int .i64 (1048576 - rs.length)) ∧ W = w') := fun W => by have := HSZ.out W; rwa [if_neg hn] at this
    have HSP := Lib.hid (hsp hn'); have HIM := Lib.hid (him hn')
    have HR := Lib.hid hr
    clear HSZ hsp him hr
    go_enter Try.func14, Try.ntmps14
    go_wp2_with fail
    refine (H1.out _).mono ?_
    rintro e w1 ⟨rfl, rfl⟩
    go_wp2_with fail
    refine (toBallotS_any A c rs _ HR.out hn').mono ?_
    rintro e w2 ⟨g2, cs2, rfl, hg2, hq2, hp2, hb2⟩
    have hy2 := hp2.rd hq2 hq2.lt
    have or2 := Rd3.on HR.out hb2
    have hB2 := on_ (Below.refl _ _) hb2
    clear hb2 hp2 hq2
    go_wp2_with fail
    refine (HSP.out _ _ hy2).mono ?_
    rintro e w3 ⟨rfl, hb3⟩
    have or3 := Rd3.on or2 hb3
    have hB3 := on_ hB2 hb3
    clear hb3 or2 hB2 hy2
    go_wp2_with fail
    refine (toBallotS_any A c rs _ or3 hn').mono ?_
    rintro e w4 ⟨g4, cs4, rfl, hg4, hq4, hp4, hb4⟩
    have hy4 := hp4.rd hq4 hq4.lt
    have or4 := Rd3.on or3 hb4
    have hB4 := on_ hB3 hb4
    clear hb4 hp4 hq4 or3 hB3
    go_wp2_with fail
    refine (HIM.out _ _ hy4).mono ?_
    rintro e w5 ⟨rfl, hb5⟩
    have or5 := Rd3.on or4 hb5
    have hy5 := Rd3.on hy4 hb5
    have hB5 := on_ hB4 hb5
    clear hb5 or4 hB4 hy4
    go_wp2_with fail
    refine (toBallotS_any A c rs _ or5 hn').mono ?_
    rintro e w6 ⟨g6, cs6, rfl, hg6, hq6, hp6, hb6⟩
    have hz6 := hp6.rd hq6 hq6.lt
    have hy6 := Rd3.on hy5 hb6
    have hB6 := on_ hB5 hb6
    clear hb6 hp6 hq6 or5 hB5 hy5
    go_wp2_with fail
    refine (eqBallotS_same _ _ _ _ rs _ hy6 hz6 hn').mono ?_
    rintro e w7 ⟨rfl, hb7⟩
    go_wp2
    go_ret
    exact ⟨rfl, on_ hB6 hb7⟩
theorem walk (n seq : Int) (A : Option Addr) (c : Nat) (rs : List B3) (w : World) (hm : rs.length ≤ maxLen) (hr : Rd3 w w.heap.size A rs) :
    Calls Try.prog 14 #[.int .i64 n, .slice A rs.length c, .int .i64 seq] w fun e w' => e = .returned (.bool true) ∧ Below w.heap.size w w' :=
  walk0 n seq A c rs _ _ w hm hr (fun hn A W h => specAcc_any n A _ rs seq W h hn) (fun hn A W h => implAcc_any n A _ rs seq W h hn)

theorem closed : joinedFacts Try.prog 14 Try.f14 Rows.fnExactAcceptedSpec Rows.fnExactAcceptedRow = true := by
  unfold joinedFacts
  rw [D.make_is, D.enter_is, D.final_is]
  kernel_rfl

set_option maxRecDepth 100000 in
theorem lifted (os : Os) (started : os.Started) (H : Type) (enc : TypeId × Value → H) :
    ReturnsInHanded {} Try.checked os 14 .any (Rows.fnExactAcceptedSpec.pre6 enc Try.prog Try.f14 Rows.fnExactAcceptedRow.domain false) (Rows.fnExactAcceptedSpec.post enc Try.prog Try.f14 false true false false) := by
  refine returnsInHanded_of_change (C := Try.checked) D.own started (by kernel_rfl) Try.func14
    (ChangeSpec.witness6 (enc := enc) (C := Try.checked) false ⟨#[], #[.int .i64 0, .slice none 0 0, .int .i64 0], []⟩ 8 (by kernel_rfl) (by kernel_rfl) (by kernel_rfl) (by kernel_rfl)) ?_
  intro W base args ds gs before hval0 hW hcnd _
  have hval : ∀ (j : Nat) t v, Try.f14.params[j]? = some t → args[j]? = some v → Value.okWide Try.prog W .any base t v := hval0
  have hW' := hW
  obtain ⟨p, q, hA0, hV, rfl, hfz, hnd⟩ := hW
  have hA : DataW.TrodAll enc Try.prog W 0 (fun _ => true) true Try.f14.params.toList args.toList ds p := hA0
  rw [Try.params14] at hA hval
  obtain ⟨v0, v1, v2, d0, d1, d2, p0, p1, p2, rfl, rfl, rfl, h0, h1, h2⟩ := trodAll_three hA
  obtain ⟨n, rfl, rfl, rfl, wn⟩ := open_int Try.underlying3 (hval 0 3 v0 rfl rfl) h0
  obtain ⟨a1, len1, cap1, rfl⟩ := okWide_slice Try.underlying70 (hval 1 70 v1 rfl rfl)
  obtain ⟨fuel1, hf1⟩ := h1
  obtain ⟨At, ct, st, hcs1, hmt, hrt⟩ := open_triples Try.underlying70 Try.underlying101 (by kernel_rfl) rfl rfl rfl (by kernel_rfl) (by kernel_rfl) (by kernel_rfl) Try.underlying3 Try.underlying3 Try.underlying3 hf1
  have hv1 : (Value.slice a1 len1 cap1) = .slice At st.length ct := by simpa [Value.cells] using hcs1
  rw [hv1] at hW' ⊢
  obtain ⟨q, rfl, rfl, rfl, wq⟩ := open_int Try.underlying3 (hval 2 3 v2 rfl rfl) h2
  refine (walk n q At ct st W hmt hrt).mono fun e W' ⟨he, hb⟩ => ⟨_, he, law_post D.laidOut hW' hb rfl (by kernel_rfl) Try.underlying4 (by kernel_rfl) rfl⟩

theorem over : Rows.fnExactAcceptedRow.holds Try.pinned (OpenSpec.ofChange Rows.fnExactAcceptedSpec) :=
  OpenClaim.holds_of_wide 14 Try.f14 rfl rfl rfl rfl rfl rfl rfl ⟨rfl, rfl, rfl, rfl, rfl⟩ rfl rfl rfl rfl rfl (by kernel_rfl) Try.func14 closed
    (of_decide_eq_true (by kernel_rfl)) (by unfold Func.isWrapper; first | (rw [if_pos (by decide +kernel)]; kernel_rfl) | (rw [if_neg (by decide +kernel)]; exact ⟨rfl, rfl⟩))
    (fun os started H enc _ => lifted os started H enc)

theorem proved : Rows.FnExactAcceptedSaid :=
  over
end Go.Proofs.Ytfebeafonifpdaa.fnExactAccepted
