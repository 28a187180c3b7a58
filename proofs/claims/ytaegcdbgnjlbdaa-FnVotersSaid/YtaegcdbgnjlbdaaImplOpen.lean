/-
  Open of the program: its contract. No statement is proved here.
-/
import Derived.Test.YtaegcdbgnjlbdaaImplViews
set_option linter.unusedVariables false
set_option maxRecDepth 100000
namespace Go.Proofs.Ytaegcdbgnjlbdaa.V
open Go.RowKit Go.Proofs.Ytaegcdbgnjlbdaa.B

/-- m is the greatest of those numbers that are done. -/
def Most (g : Int → Nat) (left : Lit → Bool) (m : Nat) : Prop := (∀ x, wfI x → left (.int .i64 x) = false → g x ≤ m) ∧ (m = 0 ∨ ∃ x, wfI x ∧ g x = m)
theorem most_step {g : Int → Nat} {left : Lit → Bool} {m : Nat} {x c : Int} (h : Most g left m) (hx : wfI x) (hc : c = g x) : ∃ m' : Nat, max (m : Int) c = (m' : Int) ∧ Most g (fun z => left z && !z.sameKey (.int .i64 x)) m' := by
  refine ⟨max m (g x), by omega, fun y hy hl => ?_, ?_⟩
  · simp only [Bool.and_eq_false_iff] at hl
    rcases hl with hl | hl
    · have := h.1 y hy hl; omega
    · have : y = x := by
        rcases hs : (Lit.int .i64 y).sameKey (.int .i64 x) with _ | _
        · rw [hs] at hl; cases hl
        · have := WideAt.sameKey_eq hs; injection this
      subst this; omega
  · rcases Nat.le_total m (g x) with h1 | h1
    · exact .inr ⟨x, hx, by omega⟩
    · rcases h.2 with h2 | ⟨y, hy, h2⟩
      · exact .inl (by omega)
      · exact .inr ⟨y, hy, by omega⟩
theorem winN_some_iff {g : Nat → Bool} : ∀ {m k : Nat}, (winN g k m).isSome = true ↔ ∃ i, k ≤ i ∧ i < k + m ∧ g i = true
  | 0, k => by simp [winN]; omega
  | m + 1, k => by
    rw [winN]
    by_cases h : g k = true
    · simp only [h, if_true, Option.isSome_some, true_iff]
      exact ⟨k, Nat.le_refl _, by omega, h⟩
    · rw [if_neg h, winN_some_iff]
      constructor
      · rintro ⟨i, h1, h2, h3⟩; exact ⟨i, by omega, by omega, h3⟩
      · rintro ⟨i, h1, h2, h3⟩
        by_cases e : i = k
        · subst e; exact absurd h3 h
        · exact ⟨i, by omega, by omega, h3⟩
theorem open_is {n view : Int} {vs : List B3} (hs : sizeB n = true) (hq : tallyOkB vs = true) {left : Lit → Bool} {m : Nat} (h : Most (fun x => cntB vs view x) left m) (hl : ∀ k, left k = false) :
    decide (strongR n ≤ (m : Int) + ((silentR n vs view).length : Int)) = openR n vs view := by
  have hR : openR n vs view = (winN (openF n vs view) 1 60).isSome := by simp [openR, hs, hq]
  rw [hR, Bool.eq_iff_iff, winN_some_iff, decide_eq_true_eq]
  constructor
  · intro h1
    rcases h.2 with h2 | ⟨x, hx, h2⟩
    · refine ⟨1, by omega, by omega, ?_⟩
      simp only [openF, decide_eq_true_eq]
      subst h2
      omega
    · have h2 : cntB vs view x = m := h2
      by_cases h0 : m = 0
      · refine ⟨1, by omega, by omega, ?_⟩
        simp only [openF, decide_eq_true_eq]
        subst h0
        omega
      · obtain ⟨u, hu, _, e⟩ := (cnt_pos vs view x).1 (by omega)
        have hb := mem_ok hq hu
        simp only [b3Ok, valB, Bool.and_eq_true, decide_eq_true_eq] at hb
        rw [e] at hb
        refine ⟨x.toNat, by omega, by omega, ?_⟩
        simp only [openF, decide_eq_true_eq]
        rw [show ((x.toNat : Nat) : Int) = x by omega, h2]
        exact h1
  · rintro ⟨i, h1, h2, h3⟩
    simp only [openF, decide_eq_true_eq] at h3
    have := h.1 (i : Int) (wf_nat (by omega)) (hl _)
    simp only at this
    omega

set_option maxHeartbeats 3200000 in
theorem implOpen_any (n view : Int) (hv : wfI view) (A : Option Addr) (c : Nat) (vs : List B3) (w : World) (hr : Rd3 w w.heap.size A vs) (hn : vs.length ≤ 1048576) :
    Calls Try.prog 32 #[.int .i64 n, .agg #[.slice A vs.length c], .int .i64 view] w fun e w' => e = .returned (.bool (openR n vs view)) ∧ Below w.heap.size w w' := by
  have hr0 := hr.up (.cells #[.slice A vs.length c] 44)
  have HR := Lib.hid hr0; clear hr0 hr
  rcases hs : sizeB n with _ | _
  · have e : openR n vs view = false := by simp [openR, hs]
    rw [e]; clear e
    go_enter Try.func32, Try.ntmps32
    go_wp2_with fail
    refine (ballotsOf_any A c vs _ HR.out hn).mono ?_
    rintro e w1 ⟨o, rfl, hlo, hbal, hb1⟩
    have hB1 := on_ (up_ (Below.refl w.heap.size w) _) hb1
    clear hb1 HR
    go_wp2_with (go_at_call 47; refine (implSize_is n false hs _).mono ?_; rintro e w0 ⟨rfl, rfl⟩)
    go_ret
    exact ⟨rfl, hB1⟩
  · rcases hq : tallyOkB vs with _ | _
    · have e : openR n vs view = false := by simp [openR, hq]
      rw [e]; clear e
      go_enter Try.func32, Try.ntmps32
      go_wp2_with fail
      refine (ballotsOf_no A c vs hq _ HR.out hn).mono ?_
      rintro e w1 ⟨rfl, hb1⟩
      have hB1 := on_ (up_ (Below.refl w.heap.size w) _) hb1
      clear hb1 HR
      go_wp2_with (go_at_call 47; refine (implSize_is n true hs _).mono ?_; rintro e w0 ⟨rfl, rfl⟩)
      go_ret
      exact ⟨rfl, hB1⟩
    · have hop := fun left m => open_is (n := n) (view := view) hs hq (left := left) (m := m)
      have HOP := Lib.hid hop; clear hop
      have hsl : silentR n vs view = silentK vs view n.toNat := by simp [silentR, hs, hq]
      have hln : (silentK vs view n.toNat).length ≤ 7 := by
        unfold silentK
        rw [List.length_map]
        refine Nat.le_trans (List.length_filter_le _ _) ?_
        rcases size_two hs with rfl | rfl <;> simp
      have hst : -1 ≤ strongR n ∧ strongR n ≤ 7 := by rcases size_two hs with rfl | rfl <;> simp [strongR, sizeB] <;> omega
      obtain ⟨m7, hm, hm7⟩ : ∃ m : Nat, n = m ∧ m ≤ 7 := by
        rcases size_two hs with rfl | rfl
        · exact ⟨4, rfl, by omega⟩
        · exact ⟨7, rfl, by omega⟩
      subst hm
      simp only [Int.toNat_natCast] at hsl hln
      obtain ⟨sl, hsl2⟩ : ∃ sl, silentK vs view m7 = sl := ⟨_, rfl⟩
      rw [hsl2] at hsl hln
      have hV := val_of hq
      have hcl : ∀ x, cntB vs view x ≤ vs.length := fun x => List.length_filter_le _ _
      have HCL := Lib.hid hcl; clear hcl
      go_enter Try.func32, Try.ntmps32
      go_wp2_with fail
      refine (ballotsOf_yes A c vs hq _ HR.out hn).mono ?_
      rintro e w1 ⟨b, rfl, hlo, hbal, hb1⟩
      have hB1 := on_ (up_ (Below.refl w.heap.size w) _) hb1
      clear hb1 HR
      go_wp2_with (first | (go_at_call 47; refine (implSize_is _ true hs _).mono ?_; rintro e w0 ⟨rfl, rfl⟩) | fail)
      refine (counts_some b vs hV hn view _ hbal).mono ?_
      rintro e w2 ⟨b2, rfl, hlb, ⟨D, hown2, hC⟩, hb2⟩
      have hB2 := on_ hB1 hb2
      have hbal2 := hbal.on hb2
      clear hb2 hbal
      go_wp2_with (first
        | (at_range; refine wpList_range_own _ rfl _ 89 rfl 3 3 lawI Try.underlying89 _ b2 vs.length _ rfl hown2 ?_; intro w3 hrg0 hg0 hs0)
        | go_in)
      go_frame
      have hB3 := hB2.grown hg0 (by have := hB2.size; omega) (fun j hj => by cases hj)
      have hs3 : w2.heap.size ≤ w3.heap.size := by omega
      have hbal3 := hbal2.kept hg0 (fun j _ => Option.some_ne_none j)
      have hbg := hbal2.lt b rfl
      have hw2 := hB2.size
      clear hbal2
      go_loopw [9] (fun mo wr => ∃ (left : Lit → Bool) (cnt m : Nat), wr.ranges Try.prog 3 plI b2 w2.heap.size vs.length D left cnt ∧ mo = .int .i64 m ∧ m ≤ vs.length ∧ Hid (Most (fun x => cntB vs view x) left m) ∧ Below w.heap.size w wr ∧ Bals wr (.map (some b)) vs)
        (fun _ wr => wr.rangeLeft b2 w2.heap.size)
      case atStart =>
        refine ⟨_, _, 0, hrg0, rfl, Nat.zero_le _, ⟨fun x hx hl => ?_, .inl rfl⟩, hB3, hbal3⟩
        rw [(hC.2 x hx).1] at hl
        simpa using hl
      case round =>
        obtain ⟨left, cnt, m, hrg, rfl, hml, hM, hbel, hbr⟩ := hrel
        go_wp2_with (first
          | (at_next; refine wpList_next_ranges_ii _ rfl _ rfl 3 3 .i64 .i64 lawI Try.underlying3 Try.underlying3 b2 w2.heap.size vs.length _ _ _ rfl hrg ?_ ?_)
          | go_in)
        · intro hc0 hl0
          have hres := HOP.out left m hM.out hl0
          rw [hsl] at hres
          have HRES := Lib.hid hres; clear hres
          go_wp2_with fail
          refine (silent_any m7 hm7 view hv (some b) vs _ hbr).mono ?_
          rintro e w4 ⟨v, rfl, hrow, hb4⟩
          rw [hsl2] at hrow
          have hB4 := on_ hbel hb4
          obtain ⟨A2, c2, rfl⟩ := form1 hrow
          clear hrow hb4
          go_wp2_with (go_at_call 57; refine (implStrong_any _ _).mono ?_; rintro e w0 ⟨rfl, rfl⟩)
          go_ret
          exact ⟨ret_boolB HRES.out, hB4⟩
        · intro x cc w4 cnt1 hx hwc hlx hat hrg1 hlt hg1 hs1 hen
          have hc := ch_at hC hx (hat _)
          obtain ⟨m', hm', hM'⟩ := most_step hM.out hx hc
          have HM := Lib.hid hM'; clear hM'
          have hcl := HCL.out x
          have hc2 : cc = (cntB vs view x : Int) := hc
          have hbz := hbel.size
          have hrb := hrg.owns.lt
          go_wp2
          go_roundw
          case rel => exact ⟨_, cnt1, m', hrg1, by congr 1; split <;> omega, by omega, HM, hbel.grown hg1 (by omega) (fun j hj => by cases hj; omega), hbr.kept hg1 (fun j e => by injection e with e; injection e with e; intro e2; injection e2 with e2; omega)⟩
          case measure => rw [hrg1.left_eq, hrg.left_eq]; exact hlt
end Go.Proofs.Ytaegcdbgnjlbdaa.V
