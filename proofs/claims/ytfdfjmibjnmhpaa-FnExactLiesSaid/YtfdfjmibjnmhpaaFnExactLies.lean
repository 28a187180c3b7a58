/-
  Proved here: for whatever script, Lies of the program answers as Lies of the model, and the script reads afterwards as before. No condition.
-/
import Derived.Test.YtfdfjmibjnmhpaaRows
import Derived.Test.YtfdfjmibjnmhpaaDoor
import Derived.Test.YtfdfjmibjnmhpaaLies
import Derived.Test.YtfdfjmibjnmhpaaLift
set_option linter.unusedVariables false
set_option maxRecDepth 100000
namespace Go.Proofs.Ytfdfjmibjnmhpaa.fnExactLies
open Go.RowKit Go.ChangeShapes Go.WideShapes Go.Proofs.Ytfdfjmibjnmhpaa.B Go.Proofs.Ytfdfjmibjnmhpaa.V
set_option maxHeartbeats 3200000 in
theorem walk (A : Option Addr) (c : Nat) (xs : List Ap) (w : World) (hL : xs.length ≤ maxLen ∧ ∀ i, i < xs.length → LensA (xs.getD i zA)) (hr : RdK KA w w.heap.size A xs) :
    Calls Try.prog 7 #[.slice A xs.length c] w fun e w' => e = .returned (.bool true) ∧ Below w.heap.size w w' := by
  have hsz := szActS_any A c xs 1048576 w hr hL (by omega) (by omega)
  by_cases hn : (1048576 : Int) < ((xs.length + tkS fA zA xs xs.length : Nat) : Int)
  · rw [if_pos hn] at hsz
    have H1 := Lib.hid hsz; clear hsz hL hn
    go_enter Try.func7, Try.ntmps7
    go_wp2_with fail
    refine H1.out.mono ?_
    rintro e w1 ⟨rfl, hb1⟩
    go_wp2
    go_ret
    exact ⟨rfl, hb1⟩
  · rw [if_neg hn] at hsz
    have hf : xs.length ≤ 1048576 ∧ ∀ i, i < xs.length → FewA (xs.getD i zA) := ⟨by omega, fun i hi => by have h1 : fA (xs.getD i zA) ≤ _ := tkS_one fA zA xs hi; unfold FewA; unfold fA at *; omega⟩
    obtain ⟨y, hy⟩ : ∃ y : Int, 1048576 - ((xs.length + tkS fA zA xs xs.length : Nat) : Int) = y := ⟨_, rfl⟩
    rw [hy] at hsz
    have hy1 : ¬ y < 0 := by omega
    clear hy
    have HT := Lib.hid (fun (W : World) (h : Below w.heap.size w W) => toActS_any A c xs W ((hr.below h).more h.size) hf)
    obtain ⟨z, hz⟩ : ∃ z, liC (xs.map Ap.dat) = z := ⟨_, rfl⟩
    have HSP := Lib.hid (fun (C : Option Addr) (ys : List Ap) (hd : ys.map Ap.dat = xs.map Ap.dat) (W : World) (h : RdK KA W W.heap.size C ys) => by
      have := specLies_any C ys.length ys W h (by have := same_len hd; omega); rw [hd, hz] at this; exact this)
    have HIM := Lib.hid (fun (C : Option Addr) (ys : List Ap) (hd : ys.map Ap.dat = xs.map Ap.dat) (W : World) (h : RdK KA W W.heap.size C ys) => by
      have := implLies_any C ys.length ys W h (by have := same_len hd; omega); rw [hd, hz] at this; exact this)
    have HE := Lib.hid (fun (C D : Option Addr) (ys us : List Ap) (hd : ys.map Ap.dat = xs.map Ap.dat) (hd2 : us.map Ap.dat = xs.map Ap.dat) (W : World) (h : RdK KA W W.heap.size C ys) (h2 : RdK KA W W.heap.size D us) => by
      have hl := same_len hd
      exact eqActS_same C D ys.length ys.length ys us (hd2.trans hd.symm) W h h2 ⟨by omega, fun i hi => (hf.2 i (by omega)).same (same_at (dat := Ap.dat) (z := zA) hd i)⟩)
    obtain ⟨n, en⟩ : ∃ n, xs.length = n := ⟨_, rfl⟩
    have HL := Lib.hid (fun (ys : List Ap) (hd : ys.map Ap.dat = xs.map Ap.dat) => (same_len hd).trans en)
    rw [en] at HT hsz ⊢
    have H1 := Lib.hid hsz
    have EN := Lib.hid en
    have hnz : (z != z) = false := by simp
    clear hsz hL hr hf hz hn en
    go_enter Try.func7, Try.ntmps7
    go_wp2_with fail
    refine H1.out.mono ?_
    rintro e w1 ⟨rfl, hb1⟩
    have HB1 := Lib.hid hb1; clear hb1 H1
    go_wp2_with fail
    refine (HT.out w1 HB1.out).mono ?_
    rintro e w2 ⟨g2, cs2, ys2, rfl, hg2, hk2, hc2, hb2⟩
    have HB2 := Lib.hid (on_ HB1.out hb2)
    have HR2 := Lib.hid (hc2.rd hk2); have HD2 := Lib.hid (hc2.same EN.out); have hl2 := hc2.1
    clear hb2 hk2 hc2 hg2
    subst hl2
    go_wp2_with fail
    refine (HSP.out _ ys2 HD2.out w2 HR2.out).mono ?_
    rintro e w3 ⟨rfl, hb3⟩
    have HB3 := Lib.hid (on_ HB2.out hb3)
    clear hb3
    go_wp2_with fail
    refine (HT.out w3 HB3.out).mono ?_
    rintro e w4 ⟨g4, cs4, ys4, rfl, hg4, hk4, hc4, hb4⟩
    have HB4 := Lib.hid (on_ HB3.out hb4)
    have HR4 := Lib.hid (hc4.rd hk4); have HD4 := Lib.hid (hc4.same EN.out); have hl4 := hc4.1
    have HIM4 := Lib.hid (HIM.out (some ⟨g4, 0, none⟩) ys4 HD4.out)
    rw [hl4] at HIM4
    clear hb4 hk4 hc4 hg4
    go_wp2_with fail
    refine (HIM4.out w4 HR4.out).mono ?_
    rintro e w5 ⟨rfl, hb5⟩
    have HB5 := Lib.hid (on_ HB4.out hb5); have HR5 := Lib.hid (HR4.out.on hb5)
    clear hb5
    go_wp2_with fail
    refine (HT.out w5 HB5.out).mono ?_
    rintro e w6 ⟨g6, cs6, ys6, rfl, hg6, hk6, hc6, hb6⟩
    have HB6 := Lib.hid (on_ HB5.out hb6); have HR6 := Lib.hid (HR5.out.on hb6)
    have HS6 := Lib.hid (hc6.rd hk6); have HD6 := Lib.hid (hc6.same EN.out)
    have HE6 := Lib.hid (HE.out (some ⟨g4, 0, none⟩) (some ⟨g6, 0, none⟩) ys4 ys6 HD4.out HD6.out)
    rw [hl4] at HE6
    clear hb6 hk6 hc6 hg6
    go_wp2_with fail
    refine (HE6.out w6 HR6.out HS6.out).mono ?_
    rintro e w7 ⟨rfl, hb7⟩
    have HB7 := Lib.hid (on_ HB6.out hb7)
    go_wp2
    go_ret
    exact ⟨rfl, HB7.out⟩

theorem closed : joinedFacts Try.prog 7 Try.f7 Rows.fnExactLiesSpec Rows.fnExactLiesRow = true := by
  unfold joinedFacts
  rw [D.make_is, D.enter_is, D.final_is]
  kernel_rfl

set_option maxRecDepth 100000 in
theorem lifted (os : Os) (started : os.Started) (H : Type) (enc : TypeId × Value → H) :
    ReturnsInHanded {} Try.checked os 7 .any (Rows.fnExactLiesSpec.pre6 enc Try.prog Try.f7 Rows.fnExactLiesRow.domain false) (Rows.fnExactLiesSpec.post enc Try.prog Try.f7 false true false false) := by
  refine returnsInHanded_of_change (C := Try.checked) D.own started (by kernel_rfl) Try.func7
    (ChangeSpec.witness6 (enc := enc) (C := Try.checked) false ⟨#[], #[.slice none 0 0], []⟩ 8 (by kernel_rfl) (by kernel_rfl) (by kernel_rfl) (by kernel_rfl)) ?_
  intro W base args ds gs before hval0 hW hcnd _
  have hval : ∀ (j : Nat) t v, Try.f7.params[j]? = some t → args[j]? = some v → Value.okWide Try.prog W .any base t v := hval0
  have hW' := hW
  obtain ⟨p, q, hA0, hV, rfl, hfz, hnd⟩ := hW
  have hA : DataW.TrodAll enc Try.prog W 0 (fun _ => true) true Try.f7.params.toList args.toList ds p := hA0
  rw [Try.params7] at hA hval
  obtain ⟨v0, d0, rfl, rfl, h0⟩ := trodAll_one hA
  obtain ⟨a0, len0, cap0, rfl⟩ := okWide_slice Try.underlying62 (hval 0 62 v0 rfl rfl)
  obtain ⟨fuel0, hf0⟩ := h0
  obtain ⟨Al, cl, xl, hcs0, hml, hrl⟩ := open_acts hf0
  have hv0 : (Value.slice a0 len0 cap0) = .slice Al xl.length cl := by simpa [Value.cells] using hcs0
  rw [hv0] at hW' ⊢
  refine (walk Al cl xl W hml hrl).mono fun e W' ⟨he, hb⟩ => ⟨_, he, law_post D.laidOut hW' hb rfl (by kernel_rfl) Try.underlying4 (by kernel_rfl) rfl⟩

theorem over : Rows.fnExactLiesRow.holds Try.pinned (OpenSpec.ofChange Rows.fnExactLiesSpec) :=
  OpenClaim.holds_of_wide 7 Try.f7 rfl rfl rfl rfl rfl rfl rfl ⟨rfl, rfl, rfl, rfl, rfl⟩ rfl rfl rfl rfl rfl (by kernel_rfl) Try.func7 closed
    (of_decide_eq_true (by kernel_rfl)) (by unfold Func.isWrapper; first | (rw [if_pos (by decide +kernel)]; kernel_rfl) | (rw [if_neg (by decide +kernel)]; exact ⟨rfl, rfl⟩))
    (fun os started H enc _ => lifted os started H enc)

theorem proved : Rows.FnExactLiesSaid :=
  over
end Go.Proofs.Ytfdfjmibjnmhpaa.fnExactLies
