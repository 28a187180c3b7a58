/-
  Proved here: for every kind, view and value, Bare of the program answers as Bare of the model, and each call's answer owns its memory. No condition.
-/
import Derived.Test.YtbgkjhfhcaidcaaRows
import Derived.Test.YtbgkjhfhcaidcaaBare
set_option linter.unusedVariables false
namespace Go.Proofs.Ytbgkjhfhcaidcaa.fnExactBare
open Go.RowKit Go.ChangeShapes Go.WideShapes Go.Proofs.Ytbgkjhfhcaidcaa.B Go.Proofs.Ytbgkjhfhcaidcaa.V

theorem eqMsg_nil (k v x a b : Int) (w : World) :
    Calls Try.prog 24 #[.agg #[.int .i64 k, .int .i64 v, .int .i64 x, .int .i64 a, .int .i64 b, .slice none 0 0], .agg #[.int .i64 k, .int .i64 v, .int .i64 x, .int .i64 a, .int .i64 b, .slice none 0 0]] w fun e w' => e = .returned (.bool true) ∧ Below w.heap.size w w' :=
  eqMsg_same k v x a b none none 0 0 [] w Rd.nil_ Rd.nil_ (by simp)

set_option maxHeartbeats 800000 in
theorem walk (k v x : Int) (w : World) :
    Calls Try.prog 9 #[.int .i64 k, .int .i64 v, .int .i64 x] w fun e w' => e = .returned (.bool true) ∧ Below w.heap.size w w' := by
  obtain ⟨⟨ra, rb, rc, rq⟩, hres⟩ : ∃ r, bareR k v x = r := ⟨_, rfl⟩
  have HS := Lib.hid hres; clear hres
  have hB0 := Below.refl w.heap.size w
  have hnq : (rq != rq) = false := by simp
  go_enter Try.func9, Try.ntmps9
  go_wp2_with fail
  refine (specBare_as k v x ra rb rc rq HS.out _).mono ?_
  rintro e w1 ⟨rfl, hb1⟩
  have hB1 := on_ hB0 hb1
  clear hb1 hB0
  have ks0 := Blk.new w1 38 #[.int .i64 ra, .int .i64 rb, .int .i64 rc, .int .i64 0, .int .i64 0, .slice none 0 0]
  go_wp2_with fail
  refine (implBare_as k v x ra rb rc rq HS.out _).mono ?_
  rintro e w2 ⟨rfl, hb2⟩
  have ks2 := Blk.on ks0 hb2
  have rs2 := ks2.rule
  have zs2 := ks2.lt
  have hB2 := on_ (up_ hB1 _) hb2
  clear hb2 ks0 hB1
  have kg0 := Blk.new w2 38 #[.int .i64 ra, .int .i64 rb, .int .i64 rc, .int .i64 0, .int .i64 0, .slice none 0 0]
  go_wp2_with fail
  refine (eqMsg_nil ra rb rc 0 0 _).mono ?_
  rintro e w3 ⟨rfl, hb3⟩
  have ks3 := Blk.on (ks2.alloc _) hb3
  have rs3 := ks3.rule
  have zs3 := ks3.lt
  have kg3 := Blk.on kg0 hb3
  have rg3 := kg3.rule
  have zg3 := kg3.lt
  have hB3 := on_ (up_ hB2 _) hb3
  clear hb3 ks2 rs2 zs2 kg0 hB2
  go_wp2_with fail
  refine (markMsg_nil ra rb rc 0 0 1 none 0 _ (by omega) (by omega)).mono ?_
  rintro e w4 ⟨rfl, hb4⟩
  have ks4 := Blk.on ks3 hb4
  have rs4 := ks4.rule
  have zs4 := ks4.lt
  have kg4 := Blk.on kg3 hb4
  have rg4 := kg4.rule
  have zg4 := kg4.lt
  have hB4 := on_ hB3 hb4
  clear hb4 ks3 rs3 zs3 kg3 rg3 zg3 hB3
  go_wp2_with fail
  refine (heldMsg_nil ra rb rc 0 0 1 none 0 _ (by omega) (by omega)).mono ?_
  rintro e w5 ⟨rfl, hb5⟩
  have ks5 := Blk.on ks4 hb5
  have rs5 := ks5.rule
  have zs5 := ks5.lt
  have kg5 := Blk.on kg4 hb5
  have rg5 := kg5.rule
  have zg5 := kg5.lt
  have hB5 := on_ hB4 hb5
  clear hb5 ks4 rs4 zs4 kg4 rg4 zg4 hB4
  go_wp2_with fail
  refine (implBare_as k v x ra rb rc rq HS.out _).mono ?_
  rintro e w6 ⟨rfl, hb6⟩
  have ks6 := Blk.on ks5 hb6
  have rs6 := ks6.rule
  have zs6 := ks6.lt
  have kg6 := Blk.on kg5 hb6
  have rg6 := kg6.rule
  have zg6 := kg6.lt
  have hB6 := on_ hB5 hb6
  clear hb6 ks5 rs5 zs5 kg5 rg5 zg5 hB5
  have kh0 := Blk.new w6 38 #[.int .i64 ra, .int .i64 rb, .int .i64 rc, .int .i64 0, .int .i64 0, .slice none 0 0]
  go_wp2_with fail
  refine (eqMsg_nil ra rb rc 0 0 _).mono ?_
  rintro e w7 ⟨rfl, hb7⟩
  have ks7 := Blk.on (ks6.alloc _) hb7
  have rs7 := ks7.rule
  have zs7 := ks7.lt
  have kg7 := Blk.on (kg6.alloc _) hb7
  have rg7 := kg7.rule
  have zg7 := kg7.lt
  have kh7 := Blk.on kh0 hb7
  have rh7 := kh7.rule
  have zh7 := kh7.lt
  have hB7 := on_ (up_ hB6 _) hb7
  clear hb7 ks6 rs6 zs6 kg6 rg6 zg6 kh0 hB6
  go_wp2_with fail
  refine (heldMsg_nil ra rb rc 0 0 1 none 0 _ (by omega) (by omega)).mono ?_
  rintro e w8 ⟨rfl, hb8⟩
  have ks8 := Blk.on ks7 hb8
  have rs8 := ks8.rule
  have zs8 := ks8.lt
  have kg8 := Blk.on kg7 hb8
  have rg8 := kg8.rule
  have zg8 := kg8.lt
  have kh8 := Blk.on kh7 hb8
  have rh8 := kh8.rule
  have zh8 := kh8.lt
  have hB8 := on_ hB7 hb8
  clear hb8 ks7 rs7 zs7 kg7 rg7 zg7 kh7 rh7 zh7 hB7
  go_wp2
  go_ret
  exact ⟨rfl, hB8⟩

theorem own : ownKnob Try.prog.godebug = none := by kernel_rfl
theorem laidOut : laidOutB Try.prog = true := by kernel_rfl

set_option maxRecDepth 100000 in
theorem lifted (os : Os) (started : os.Started) (H : Type) (enc : TypeId × Value → H) :
    ReturnsInHanded {} Try.checked os 9 .any (Rows.fnExactBareSpec.pre6 enc Try.prog Try.f9 Rows.fnExactBareRow.domain false) (Rows.fnExactBareSpec.post enc Try.prog Try.f9 false true false false) := by
  refine returnsInHanded_of_change (C := Try.checked) own started (by kernel_rfl) Try.func9
    (ChangeSpec.witness6 (enc := enc) (C := Try.checked) false ⟨#[], #[.int .i64 0, .int .i64 0, .int .i64 0], []⟩ 8 (by kernel_rfl) (by kernel_rfl) (by kernel_rfl) (by kernel_rfl)) ?_
  intro W base args ds gs before hval0 hW hcnd _
  have hval : ∀ (j : Nat) t v, Try.f9.params[j]? = some t → args[j]? = some v → Value.okWide Try.prog W .any base t v := hval0
  have hW' := hW
  obtain ⟨p, q, hA0, hV, rfl, hfz, hnd⟩ := hW
  have hA : DataW.TrodAll enc Try.prog W 0 (fun _ => true) true Try.f9.params.toList args.toList ds p := hA0
  rw [Try.params9] at hA hval
  obtain ⟨v0, v1, v2, d0, d1, d2, p0, p1, p2, rfl, rfl, rfl, h0, h1, h2⟩ := trodAll_three hA
  obtain ⟨p, rfl, rfl, rfl, wp⟩ := open_int Try.underlying3 (hval 0 3 v0 rfl rfl) h0
  obtain ⟨q1, rfl, rfl, rfl, wq1⟩ := open_int Try.underlying3 (hval 1 3 v1 rfl rfl) h1
  obtain ⟨r, rfl, rfl, rfl, wr⟩ := open_int Try.underlying3 (hval 2 3 v2 rfl rfl) h2
  refine (walk p q1 r W).mono fun e W' ⟨he, hb⟩ => ⟨_, he, law_post laidOut hW' hb rfl (by kernel_rfl) Try.underlying4 (by kernel_rfl) rfl⟩

theorem over : Rows.fnExactBareRow.holds Try.pinned (OpenSpec.ofChange Rows.fnExactBareSpec) :=
  OpenClaim.holds_of_wide 9 Try.f9 rfl rfl rfl rfl rfl rfl rfl ⟨rfl, rfl, rfl, rfl, rfl⟩ rfl rfl rfl rfl rfl (by kernel_rfl) Try.func9 (by kernel_rfl)
    (of_decide_eq_true (by kernel_rfl)) (by unfold Func.isWrapper; first | (rw [if_pos (by decide +kernel)]; kernel_rfl) | (rw [if_neg (by decide +kernel)]; exact ⟨rfl, rfl⟩))
    (fun os started H enc _ => lifted os started H enc)

theorem proved : Rows.FnExactBareSaid :=
  over
end Go.Proofs.Ytbgkjhfhcaidcaa.fnExactBare
