/-
  Proved here: for whatever bytes of a draw, the law FnTallies of tallies answers true. No condition.
-/
import Derived.Test.YtfbiblomblcheaaRows
import Derived.Test.YtfbiblomblcheaaDraw4
import Derived.Test.YtfbiblomblcheaaTallies
import Derived.Test.YtfbiblomblcheaaLift
set_option linter.unusedVariables false
set_option maxRecDepth 100000
namespace Go.Proofs.Ytfbiblomblcheaa.fnTallies
open Go.RowKit Go.ChangeShapes Go.WideShapes Go.Proofs.Ytfbiblomblcheaa.B Go.Proofs.Ytfbiblomblcheaa.V

theorem not_added {vs : List B3} {u : B3} (h : addQ vs u = false) : addU vs u = [] ∨ (addU vs u = vs ∧ 0 < vs.length) := by
  rcases add_no h with e | e
  · exact .inl e
  · rcases Nat.eq_zero_or_pos vs.length with h0 | h0
    · exact .inl (e.trans (List.eq_nil_of_length_eq_zero h0))
    · exact .inr ⟨e, h0⟩
/-- What holds of a tally to which a ballot was added. -/
structure Added (vs us : List B3) (a b x : Int) : Prop where
  len : us.length = vs.length + 1
  toldR : toldR us b a = x
  toldQ : toldQ us b a = true
  was : V.toldQ vs b a = false
  ok : tallyOkB us = true
  cnt : countR us b x = countR vs b x + 1
  lo : 0 ≤ countR vs b x
  hi : countR vs b x ≤ vs.length
  each : ∀ k : Int, countR us b k = (cntB us b k : Int)
  sum : ∀ k, sumK us b k ≤ 7
theorem added {vs : List B3} {a b x : Int} (h : addQ vs (a, b, x) = true) : Added vs (addU vs (a, b, x)) a b x := by
  obtain ⟨h1, h2, h3, h4, h5, h6⟩ := add_yes h
  have hok := tallyOk_of h5
  have ht := told_ins h5 (insT_mem.2 (.inr rfl))
  have hc : ∀ k : Int, countR (insT vs (place vs (a, b, x)) (a, b, x)) b k = (cntB (insT vs (place vs (a, b, x)) (a, b, x)) b k : Int) := fun k => by simp [countR, hok]
  have hv : countR vs b x = (cntB vs b x : Int) := by simp [countR, h1]
  rw [h4]
  refine ⟨h6, ht.2, ht.1, ?_, hok, ?_, ?_, ?_, hc, fun k => sumK_le h5 b k⟩
  · unfold foundQ at h3
    simp only [V.toldQ, h1, Bool.true_and]
    exact h3
  · rw [hc, hv, cnt_ins]
    simp [isAt]
  · rw [hv]; omega
  · rw [hv]
    have := cntB_le vs b x
    omega
set_option maxHeartbeats 3200000 in
theorem walk (A : Option Addr) (n c : Nat) (hm : n ≤ maxLen) (w : World) (hr : RdC w w.heap.size A n) :
    Calls Try.prog 4 #[.slice A n c] w fun e w' => e = .returned (.bool true) ∧ Below w.heap.size w w' := by
  go_enter Try.func4, Try.ntmps4
  go_wp2_with fail
  refine (drawAdd_any A n c hm w hr).mono ?_
  rintro e w1 ⟨B, d, vs, a, b, x, rfl, hl, hr1, ha0, ha1, hb0, hb1, hx0, hx1, hB1⟩
  have kt1 := (Blk.new w1 29 #[.slice B vs.length d]).alloc (.cells #[.int .i64 a, .int .i64 b, .int .i64 x] 31)
  have kb1 := Blk.new (w1.alloc (.cells #[.slice B vs.length d] 29)) 31 #[.int .i64 a, .int .i64 b, .int .i64 x]
  simp only [World.size_alloc] at kb1
  have hr1' := (hr1.up (.cells #[.slice B vs.length d] 29)).up (.cells #[.int .i64 a, .int .i64 b, .int .i64 x] 31)
  have hB1' := up_ (up_ hB1 (.cells #[.slice B vs.length d] 29)) (.cells #[.int .i64 a, .int .i64 b, .int .i64 x] 31)
  have hs1 := hB1'.size
  clear hB1 hr1
  go_wp2_with fail
  refine (implTallyAdd_go a b x B d vs _ hr1' (by omega)).mono ?_
  rintro e w2 ⟨Bx, dx, rfl, hox, hb2⟩
  have hB2 := on_ hB1' hb2
  have kt2 := kt1.on hb2
  have kb2 := kb1.on hb2
  have hr2 := hr1'.on hb2
  have hrx2 := hox.rd
  have hs2 := hb2.size
  simp only [World.size_alloc] at hs2
  have kx3 := Blk.new w2 29 #[.slice Bx (addU vs (a, b, x)).length dx]
  have kt3 := kt2.alloc (.cells #[.slice Bx (addU vs (a, b, x)).length dx] 29)
  have kb3 := kb2.alloc (.cells #[.slice Bx (addU vs (a, b, x)).length dx] 29)
  have hr3 := hr2.up (.cells #[.slice Bx (addU vs (a, b, x)).length dx] 29)
  have hrx3 := hrx2.up (.cells #[.slice Bx (addU vs (a, b, x)).length dx] 29)
  have hB3 := up_ hB2 (.cells #[.slice Bx (addU vs (a, b, x)).length dx] 29)
  have hsz3 : (w2.alloc (.cells #[.slice Bx (addU vs (a, b, x)).length dx] 29)).heap.size = w2.heap.size + 1 := World.size_alloc _ _
  clear hB1' hr1' hb2 hox hB2 kt1 kb1 kt2 kb2 hr2 hrx2 hr
  rcases hq : addQ vs (a, b, x) with _ | _
  · rcases not_added hq with e | ⟨e, h0⟩
    · rw [e] at kx3 kt3 kb3 hr3 hrx3 hB3 hsz3 ⊢
      go_wp2_with fail
      refine (tallies_any _).mono ?_
      rintro e w4 ⟨rfl, hb4⟩
      go_wp2
      go_ret
      exact ⟨rfl, on_ hB3 hb4⟩
    · rw [e] at kx3 kt3 kb3 hr3 hrx3 hB3 hsz3 ⊢
      clear e
      obtain ⟨m, hm2⟩ : ∃ m, vs.length = m := ⟨_, rfl⟩
      have hsame := fun W h1 h2 => sameTally_same Bx B dx d vs W h1 h2 (by omega)
      rw [hm2] at kx3 kt3 kb3 hr3 hrx3 hB3 hsz3 hsame h0 ⊢
      have HS := Lib.hid hsame; clear hsame hm2
      have rx := kx3.rule
      have rt := kt3.rule
      have hne : ((m : Int) == 0) = false := by simp; omega
      go_wp2_with fail
      generalize w2.alloc (.cells #[.slice Bx m dx] 29) = w3 at *
      refine (HS.out _ hrx3 hr3).mono ?_
      rintro e w4 ⟨rfl, hb4⟩
      have hB4 := on_ hB3 hb4
      go_wp2_with fail
      refine (tallies_any _).mono ?_
      rintro e w5 ⟨rfl, hb5⟩
      go_wp2
      go_ret
      exact ⟨rfl, on_ hB4 hb5⟩
  · have hA := added hq
    clear hq
    generalize addU vs (a, b, x) = us at *
    have hwa : wfI a := WalkArith.wf_i64 (by omega)
    have hwb : wfI b := WalkArith.wf_i64 (by omega)
    have hul : us.length ≤ 16 := by have := hA.len; omega
    have c1 := fun W h => implTold_any b a hwb hwa Bx dx us W h (by omega)
    have c2 := fun W h => implTold_any b a hwb hwa B d vs W h (by omega)
    have c3 := fun W h => implTallyOk_is true Bx dx us hA.ok W h (by omega)
    have c4 := fun k W h => implCount_any b k hwb Bx dx us W h (by omega)
    have c5 := fun W h => implCount_any b x hwb B d vs W h (by omega)
    have c4x := c4 x
    rw [hA.toldR, hA.toldQ] at c1
    rw [hA.was] at c2
    rw [hA.cnt] at c4x
    have hlo := hA.lo
    have hhi := hA.hi
    have hsum := hA.sum
    have hlen := hA.len
    have heach := hA.each
    generalize V.toldR vs b a = y at *
    generalize countR vs b x = K at *
    obtain ⟨m, hm2⟩ : ∃ m, vs.length = m := ⟨_, rfl⟩
    rw [hm2] at hlen hhi hl c2 c5 kt3 ⊢
    rw [hlen] at c1 c3 c4 c4x kx3 kt3 kb3 hr3 hrx3 hB3 hsz3 ⊢
    have C1 := Lib.hid c1; have C2 := Lib.hid c2; have C3 := Lib.hid c3; have C4 := Lib.hid c4; have C4X := Lib.hid c4x; have C5 := Lib.hid c5
    have HSUM := Lib.hid hsum; have HEACH := Lib.hid heach
    clear c1 c2 c3 c4 c4x c5 hsum hlen heach hA hm2 hul
    have rx := kx3.rule
    have rb := kb3.rule
    go_wp2_with fail
    generalize w2.alloc (.cells #[.slice Bx (m + 1) dx] 29) = w3 at *
    refine (C1.out _ hrx3).mono ?_
    rintro e w4 ⟨rfl, hb4⟩
    have kx4 := kx3.on hb4
    have kt4 := kt3.on hb4
    have kb4 := kb3.on hb4
    have hr4 := hr3.on hb4
    have hrx4 := hrx3.on hb4
    have hB4 := on_ hB3 hb4
    clear kx3 kt3 kb3 hr3 hrx3 hB3 rx rb hb4
    have rt := kt4.rule
    have rb := kb4.rule
    go_wp2_with fail
    refine (C2.out _ hr4).mono ?_
    rintro e w5 ⟨rfl, hb5⟩
    have kx5 := kx4.on hb5
    have kt5 := kt4.on hb5
    have kb5 := kb4.on hb5
    have hr5 := hr4.on hb5
    have hrx5 := hrx4.on hb5
    have hB5 := on_ hB4 hb5
    clear kx4 kt4 kb4 hr4 hrx4 hB4 rt rb hb5
    have hW : IntKind.i64.wrap (K + 1) = K + 1 := IntWalk.i64_in _ (by omega)
    have hxx : ∀ i : Int, (i != i) = false := fun i => by simp
    go_wp2
    have lx := lat_blk kx5
    have lt := lat_blk kt5
    have lb := lat_blk kb5
    refine wp_region_lat (by kernel_rfl) (by kernel_rfl) ?_
    repeat (go_big_quiet_step ((first
      | (go_at_call 31; exact lat_call _ (C3.out _ ((hrx5.below (Lat.below _)).more (Lat.below _).size)))
      | (go_at_call 32; with_reducible exact lat_call _ (C4X.out _ ((hrx5.below (Lat.below _)).more (Lat.below _).size)))
      | (go_at_call 32; with_reducible exact lat_call _ (C5.out _ ((hr5.below (Lat.below _)).more (Lat.below _).size))))))
    refine wpQuiet_nil ?_
    rintro w6 ⟨⟨_, hb6⟩, rfl⟩
    clear lx lt lb
    have kx6 := kx5.on hb6
    have kt6 := kt5.on hb6
    have kb6 := kb5.on hb6
    have hrx6 := hrx5.on hb6
    have hB6 := on_ hB5 hb6
    clear kx5 kt5 kb5 hr5 hrx5 hB5 hb6 C1 C2 C3 C4X C5
    go_wp2
    go_loopw [11, 12] (fun sv i wr => ∃ (k j s : Nat), j ≤ 60 ∧ Hid (k = j + 1) ∧ i = .int .i64 k ∧ sv = .int .i64 s ∧ Hid (s = sumK us b j) ∧ Below w6.heap.size w6 wr) (fun _ i _ => 61 - (intOf i).toNat)
    case atStart => exact ⟨1, 0, 0, by omega, rfl, rfl, rfl, rfl, Below.refl _ _⟩
    case round =>
      obtain ⟨k, j, s, hj, HK, rfl, rfl, HS, hbel⟩ := hrel
      have hk := HK.out
      have hrr := hrx6.on hbel
      have rx := (kx6.on hbel).rule
      have rt := (kt6.on hbel).rule
      have rb := (kb6.on hbel).rule
      have hs7 : s ≤ 7 := by rw [HS.out]; exact HSUM.out j
      by_cases hlt : j < 60
      · have hc4 := C4.out (k : Int) wr hrr
        rw [HEACH.out] at hc4
        have hs2 : s + cntB us b (k : Int) ≤ 7 := by
          have := HSUM.out (j + 1)
          rw [sumK, ← HS.out] at this
          rw [hk]
          exact this
        have HS2 : Hid (s + cntB us b (k : Int) = sumK us b (j + 1)) := by
          show _ = _
          rw [sumK, ← HS.out, hk]; rfl
        generalize cntB us b (k : Int) = q at *
        have HC := Lib.hid hc4; clear hc4
        have hle : (k : Int) ≤ 60 := by omega
        have hWs : IntKind.i64.wrap ((s : Int) + (q : Int)) = (s : Int) + (q : Int) := IntWalk.i64_in _ (by omega)
        have hWk : IntKind.i64.wrap ((k : Int) + 1) = (k : Int) + 1 := IntWalk.i64_in _ (by omega)
        clear hk hrr rt
        go_wp2_with fail
        refine (HC.out).mono ?_
        rintro e w7 ⟨rfl, hb7⟩
        go_wp2
        go_roundw
        case rel => exact ⟨k + 1, j + 1, s + q, hlt, (by have := HK.out; show _ = _; omega), by go_num, by go_num, HS2, on_ hbel hb7⟩
        case measure => have := HK.out; simp [intOf]; omega
      · have hle : decide ((k : Int) ≤ 60) = false := by simp; omega
        have hs72 : (s : Int) ≤ 7 := by omega
        clear hk hs7 hlt hj hrr rb
        go_wp2_with fail
        refine (tallies_any _).mono ?_
        rintro e w7 ⟨rfl, hb7⟩
        go_wp2
        go_ret
        exact ⟨rfl, on_ (on_ hB6 hbel) hb7⟩

theorem own : ownKnob Try.prog.godebug = none := by kernel_rfl
theorem laidOut : laidOutB Try.prog = true := by kernel_rfl

set_option maxRecDepth 100000 in
theorem lifted (os : Os) (started : os.Started) (H : Type) (enc : TypeId × Value → H) :
    ReturnsInHanded {} Try.checked os 4 .any (Rows.fnTalliesSpec.pre6 enc Try.prog Try.f4 Rows.fnTalliesRow.domain false) (Rows.fnTalliesSpec.post enc Try.prog Try.f4 false true false false) := by
  refine returnsInHanded_of_change (C := Try.checked) own started (by kernel_rfl) Try.func4
    (ChangeSpec.witness6 (enc := enc) (C := Try.checked) false ⟨#[], #[.slice none 0 0], []⟩ 8 (by kernel_rfl) (by kernel_rfl) (by kernel_rfl) (by kernel_rfl)) ?_
  intro W base args ds gs before hval0 hW hcnd _
  have hval : ∀ (j : Nat) t v, Try.f4.params[j]? = some t → args[j]? = some v → Value.okWide Try.prog W .any base t v := hval0
  have hW' := hW
  obtain ⟨p, q, hA0, hV, rfl, hfz, hnd⟩ := hW
  have hA : DataW.TrodAll enc Try.prog W 0 (fun _ => true) true Try.f4.params.toList args.toList ds p := hA0
  rw [Try.params4] at hA hval
  obtain ⟨v0, d0, rfl, rfl, h0⟩ := trodAll_one hA
  obtain ⟨a0, len0, cap0, rfl⟩ := okWide_slice Try.underlying22 (hval 0 22 v0 rfl rfl)
  obtain ⟨fuel0, hf0⟩ := h0
  obtain ⟨Ab, nb, cb, hcs0, hmb, hrb⟩ := open_code hf0
  have hv0 : (Value.slice a0 len0 cap0) = .slice Ab nb cb := by simpa [Value.cells] using hcs0
  rw [hv0] at hW' ⊢
  refine (walk Ab nb cb hmb W hrb).mono fun e W' ⟨he, hb⟩ => ⟨_, he, law_post laidOut hW' hb rfl (by kernel_rfl) Try.underlying4 (by kernel_rfl) rfl⟩

theorem over : Rows.fnTalliesRow.holds Try.pinned (OpenSpec.ofChange Rows.fnTalliesSpec) :=
  OpenClaim.holds_of_wide 4 Try.f4 rfl rfl rfl rfl rfl rfl rfl ⟨rfl, rfl, rfl, rfl, rfl⟩ rfl rfl rfl rfl rfl (by kernel_rfl) Try.func4 (by kernel_rfl)
    (of_decide_eq_true (by kernel_rfl)) (by unfold Func.isWrapper; first | (rw [if_pos (by decide +kernel)]; kernel_rfl) | (rw [if_neg (by decide +kernel)]; exact ⟨rfl, rfl⟩))
    (fun os started H enc _ => lifted os started H enc)

theorem proved : Rows.FnTalliesSaid :=
  over
end Go.Proofs.Ytfbiblomblcheaa.fnTallies
