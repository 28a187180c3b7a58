/-
  Winner of the program: its contract. No statement is proved here.
-/
import Derived.Test.YtfebeafonifpdaaHeap2
import Derived.Test.YtfebeafonifpdaaImplViews
set_option linter.unusedVariables false
set_option maxRecDepth 100000
namespace Go.Proofs.Ytfebeafonifpdaa.V
open Go.RowKit Go.Proofs.Ytfebeafonifpdaa.B

section
variable {k : TypeId} {R : Value → Option (DataW Unit × List MemPlace)} {b r n : Nat} {D : DataW Unit} {left : Lit → Bool} {cnt base p : Nat} {v : Value} {xs : List Int} {w w' : World}
theorem ranges_hg (h : w.ranges Try.prog k R b r n D left cnt) (hG : HG base p w w') (hp : HP base w p v xs) : w'.ranges Try.prog k R b r n D left cnt := by
  have h1 := h.owns.lt
  have h2 := h.lt
  have hk := hp.1
  unfold Blk at hk
  obtain ⟨es, clock, since, seen, c0, hb, Fi, hs, hD, hr, rest⟩ := h
  have e1 := hG.block b h1 (fun e => by subst e; rw [hb] at hk; cases hk) (.inr fun cur => by rw [hb]; simp)
  have e2 := hG.block r h2 (fun e => by subst e; rw [hr] at hk; cases hk) (.inr fun cur => by rw [hr]; simp)
  exact ⟨es, clock, since, seen, c0, e1.trans hb, Fi, hs, hD, e2.trans hr, rest⟩
theorem hp_next (hp : HP base w p v xs) (h : w.ranges Try.prog k R b r n D left cnt) (hg : w.grownBy w' (some r)) : HP base w' p v xs := by
  have hk := hp.1
  unfold Blk at hk
  obtain ⟨es, clock, since, seen, c0, hb, Fi, hs, hD, hr, rest⟩ := h
  have e1 : some r ≠ some p := fun e => by injection e with e; subst e; rw [hr] at hk; cases hk
  have e2 : v.ownBlock ≠ some r := fun e => by
    rcases hp.2.1.2 with ⟨rfl, _⟩ | ⟨g, cap, cur, rfl, _, hgg, _⟩
    · simp [Value.ownBlock] at e
    · simp only [Value.ownBlock, Option.some.injEq] at e
      subst e; rw [hgg] at hr; cases hr
  exact ⟨keepK hp.1 hg e1, hp.2.1.kept hg (.inr e2), hp.2.2⟩
theorem hg_below {B : Nat} (hG : HG base p w w') (h1 : B ≤ base) (h2 : B ≤ p) (h3 : B ≤ w.heap.size) : Below B w w' :=
  ⟨hG.os, hG.tape, hG.output, hG.size, fun i hi => hG.block i (by omega) (by omega) (.inl (by omega))⟩
end
/-- The heap holds those that are done and have enough. -/
def WinS (g : Int → Nat) (need : Int) (left : Lit → Bool) (xs : List Int) : Prop := IsHeap xs ∧ ∀ x, x ∈ xs ↔ wfI x ∧ left (.int .i64 x) = false ∧ need ≤ (g x : Int)
theorem left_step {left : Lit → Bool} {x y : Int} : (left (.int .i64 y) && !(Lit.int .i64 y).sameKey (.int .i64 x)) = false ↔ left (.int .i64 y) = false ∨ y = x := by
  constructor
  · intro h
    rw [Bool.and_eq_false_iff] at h
    rcases h with h | h
    · exact .inl h
    · rcases hs : (Lit.int .i64 y).sameKey (.int .i64 x) with _ | _
      · rw [hs] at h; cases h
      · have := WideAt.sameKey_eq hs; injection this; exact .inr (by assumption)
  · rintro (h | h)
    · rw [h]; rfl
    · subst h
      rw [WideAt.sameKey_self (a := Lit.int .i64 y) (by trivial)]
      simp
theorem win_keep {g : Int → Nat} {need : Int} {left : Lit → Bool} {xs : List Int} {x : Int} (h : WinS g need left xs) (hx : ¬ need ≤ (g x : Int)) : WinS g need (fun z => left z && !z.sameKey (.int .i64 x)) xs :=
  ⟨h.1, fun y => by
    rw [h.2 y, left_step]
    constructor
    · rintro ⟨a, b, c⟩; exact ⟨a, .inl b, c⟩
    · rintro ⟨a, b | rfl, c⟩
      · exact ⟨a, b, c⟩
      · exact absurd c hx⟩
theorem win_add {g : Int → Nat} {need : Int} {left : Lit → Bool} {xs ys : List Int} {x : Int} (h : WinS g need left xs) (hw : wfI x) (hx : need ≤ (g x : Int)) (hh : IsHeap ys) (hm : ∀ y, y ∈ ys ↔ y ∈ xs ∨ y = x) : WinS g need (fun z => left z && !z.sameKey (.int .i64 x)) ys :=
  ⟨hh, fun y => by
    rw [hm y, h.2 y, left_step]
    constructor
    · rintro (⟨a, b, c⟩ | rfl)
      · exact ⟨a, .inl b, c⟩
      · exact ⟨hw, .inr rfl, hx⟩
    · rintro ⟨a, b | rfl, c⟩
      · exact .inl ⟨a, b, c⟩
      · exact .inr rfl⟩
theorem win_none {vs : List B3} {view need : Int} (hq : tallyOkB vs = true) (hn : 1 ≤ need) {left : Lit → Bool} {xs : List Int} (h : WinS (fun x => cntB vs view x) need left xs) (hl : ∀ k, left k = false) (h0 : xs.length = 0) : winnerK vs view need = none := by
  unfold winnerK
  rw [if_pos ⟨hq, hn⟩]
  refine winN_none fun j h1 h2 => ?_
  simp only [enough, decide_eq_false_iff_not]
  intro h3
  have hm := (h.2 (j : Int)).2 ⟨wf_nat (by omega), hl _, h3⟩
  rw [List.eq_nil_of_length_eq_zero h0] at hm
  cases hm
theorem win_some {vs : List B3} {view need : Int} (hq : tallyOkB vs = true) (hn : 1 ≤ need) {left : Lit → Bool} {xs : List Int} (h : WinS (fun x => cntB vs view x) need left xs) (hl : ∀ k, left k = false) (h0 : 0 < xs.length) : winV (winnerK vs view need) = xs.getD 0 0 ∧ (winnerK vs view need).isSome = true := by
  have hm : xs.getD 0 0 ∈ xs := mem_getD.2 ⟨0, h0, rfl⟩
  obtain ⟨hw, _, hc⟩ := (h.2 _).1 hm
  have hc : need ≤ (cntB vs view (xs.getD 0 0) : Int) := hc
  obtain ⟨u, hu, _, e⟩ := (cnt_pos vs view (xs.getD 0 0)).1 (by omega)
  have hb := mem_ok hq hu
  simp only [b3Ok, valB, Bool.and_eq_true, decide_eq_true_eq] at hb
  rw [e] at hb
  obtain ⟨i, hi⟩ : ∃ i : Nat, xs.getD 0 0 = i := ⟨(xs.getD 0 0).toNat, by omega⟩
  have hroot := root_least h.1
  rw [hi] at hc hb hroot
  have hK : winnerK vs view need = some i := by
    unfold winnerK
    rw [if_pos ⟨hq, hn⟩]
    refine winN_some (by omega) (by omega) (fun j h1 h2 => ?_) ?_
    · simp only [enough, decide_eq_false_iff_not]
      intro h3
      have hmj := (h.2 (j : Int)).2 ⟨wf_nat (by omega), hl _, h3⟩
      obtain ⟨k, hk, e⟩ := mem_getD.1 hmj
      have := hroot k hk
      omega
    · simp only [enough, decide_eq_true_eq]; exact hc
  rw [hK, hi]
  exact ⟨rfl, rfl⟩

set_option maxHeartbeats 6400000 in
theorem implWinner_any (view need : Int) (hv : wfI view) (A : Option Addr) (c : Nat) (vs : List B3) (w : World) (hr : Rd3 w w.heap.size A vs) (hn : vs.length ≤ 1048576) :
    Calls Try.prog 80 #[.agg #[.slice A vs.length c], .int .i64 view, .int .i64 need] w fun e w' => e = .returned (.tuple #[.int .i64 (winV (winnerK vs view need)), .bool (winnerK vs view need).isSome]) ∧ Below w.heap.size w w' := by
  have hr0 := hr.up (.cells #[.slice A vs.length c] 96)
  have HR := Lib.hid hr0; clear hr0 hr
  rcases hq : tallyOkB vs with _ | _
  · have e : winnerK vs view need = none := by simp [winnerK, hq]
    rw [e]; clear e
    go_enter Try.func80, Try.ntmps80
    go_wp2_with fail
    refine (ballotsOf_no A c vs hq _ HR.out hn).mono ?_
    rintro e w1 ⟨rfl, hb1⟩
    have hB1 := on_ (up_ (Below.refl w.heap.size w) _) hb1
    clear hb1 HR
    go_wp2
    refine bodyPost_ret (v := .tuple #[.int .i64 0, .bool false]) (by simp [results, Try.results80, go_sem]) rfl ?_
    exact ⟨rfl, hB1⟩
  · by_cases hnd : need < 1
    · have e : winnerK vs view need = none := by
        unfold winnerK
        rw [if_neg (fun h => by omega)]
      rw [e]; clear e
      go_enter Try.func80, Try.ntmps80
      go_wp2_with fail
      refine (ballotsOf_yes A c vs hq _ HR.out hn).mono ?_
      rintro e w1 ⟨b, rfl, hlo, hbal, hb1⟩
      have hB1 := on_ (up_ (Below.refl w.heap.size w) _) hb1
      clear hb1 HR
      go_wp2
      refine bodyPost_ret (v := .tuple #[.int .i64 0, .bool false]) (by simp [results, Try.results80, go_sem]) rfl ?_
      exact ⟨rfl, hB1⟩
    · have hnd1 : 1 ≤ need := by omega
      have hf0 : decide (need < 1) = false := by simp; omega
      have hV := val_of hq
      have hno := fun left xs => win_none (view := view) (need := need) hq hnd1 (left := left) (xs := xs)
      have hso := fun left xs => win_some (view := view) (need := need) hq hnd1 (left := left) (xs := xs)
      have HNO := Lib.hid hno; clear hno
      have HSO := Lib.hid hso; clear hso
      have HND := Lib.hid hnd1; clear hnd1 hnd
      have hta : ∀ (x : Int) (W : World), (Instr.typeAssert (.iface 3 (.int .i64 x)) 20 3 false).run Try.prog W = .ok (.int .i64 x) W := fun _ _ => by kernel_rfl
      go_enter Try.func80, Try.ntmps80
      go_wp2_with fail
      refine (ballotsOf_yes A c vs hq _ HR.out hn).mono ?_
      rintro e w1 ⟨b, rfl, hlo, hbal, hb1⟩
      have hB1 := on_ (up_ (Below.refl w.heap.size w) _) hb1
      clear hb1 HR
      have hs1 := hB1.size
      have hp0 : HP w1.heap.size ((w1.alloc (.cells #[] 3)).alloc (.cells #[.slice (some ⟨w1.heap.size, 0, none⟩) 0 0] 114)) (w1.heap.size + 1) (.slice (some ⟨w1.heap.size, 0, none⟩) 0 0) [] :=
        ⟨by simpa using Blk.new (w1.alloc (.cells #[] 3)) 114 #[.slice (some ⟨w1.heap.size, 0, none⟩) 0 0],
          ⟨rfl, .inr ⟨w1.heap.size, 0, #[], rfl, Nat.le_refl _, (Blk.new w1 3 #[]).alloc _, Nat.le_refl _, by decide, rfl, rfl⟩⟩, by simp [Value.ownBlock]⟩
      have hB2 : Below w.heap.size w ((w1.alloc (.cells #[] 3)).alloc (.cells #[.slice (some ⟨w1.heap.size, 0, none⟩) 0 0] 114)) := up_ (up_ hB1 _) _
      have hbal2 := (hbal.alloc (.cells #[] 3)).alloc (.cells #[.slice (some ⟨w1.heap.size, 0, none⟩) 0 0] 114)
      have hcs := counts_some b vs hV hn view _ hbal2
      have HCS := Lib.hid hcs; clear hcs
      go_wp2_with fail
      refine HCS.out.mono ?_
      rintro e w2 ⟨b2, rfl, hlb, ⟨D, hown2, hC⟩, hb2⟩
      have hp2 := hp0.on hb2
      have hB3 := on_ hB2 hb2
      have hs2 := hb2.size
      simp only [World.size_alloc] at hs2
      clear hb2 hbal2 hbal HCS hp0 hB2
      go_wp2_with (first
        | (at_range; refine wpList_range_own _ rfl _ 117 rfl 3 3 lawI Try.underlying117 _ b2 vs.length _ rfl hown2 ?_; intro w3 hrg0 hg0 hs0)
        | go_in)
      go_frame
      have hB4 := hB3.grown hg0 (by omega) (fun j hj => by cases hj)
      have hsz := hown2.size_le
      have hp3 : HP w1.heap.size w3 (w1.heap.size + 1) (.slice (some ⟨w1.heap.size, 0, none⟩) 0 0) [] := ⟨keepK hp2.1 hg0 (by simp), hp2.2.1.kept hg0 (.inr (by simp [Value.ownBlock])), hp2.2.2⟩
      go_loopw [12] (fun _ wr => ∃ (left : Lit → Bool) (cnt : Nat) (v : Value) (xs : List Int), wr.ranges Try.prog 3 plI b2 w2.heap.size vs.length D left cnt ∧ HP w1.heap.size wr (w1.heap.size + 1) v xs ∧ Hid (WinS (fun x => cntB vs view x) need left xs) ∧ xs.length + cnt ≤ vs.length ∧ Below w.heap.size w wr ∧ w2.heap.size + 1 ≤ wr.heap.size)
        (fun _ wr => wr.rangeLeft b2 w2.heap.size)
      case atStart =>
        refine ⟨_, _, _, [], hrg0, hp3, ⟨fun i h0 hi => by simp at hi, fun x => ⟨fun h => by simp at h, ?_⟩⟩, by simpa using hsz, hB4, by omega⟩
        rintro ⟨h1, h2, h3⟩
        have hnd := HND.out
        have h3 : need ≤ (cntB vs view x : Int) := h3
        rw [(hC.2 x h1).1] at h2
        simp at h2
        omega
      case round =>
        clear hp2 hp3 hrg0 hg0 hs0 hB4 hB3
        obtain ⟨left, cnt, v, xs, hrg, hst, hW, hlc, hbel, hsr⟩ := hrel
        go_wp2_with (first
          | (at_next; refine wpList_next_ranges_ii _ rfl _ rfl 3 3 .i64 .i64 lawI Try.underlying3 Try.underlying3 b2 w2.heap.size vs.length _ _ _ rfl hrg ?_ ?_)
          | go_in)
        · intro hc0 hl0
          obtain ⟨A2, c2, rfl⟩ := form1 hst.2.1
          have hcap := cap_of hst.2.1
          have m1 := hp_meth "Len" 125 (by kernel_rfl) hst
          have hno := HNO.out left xs hW.out hl0
          have hso := HSO.out left xs hW.out hl0
          obtain ⟨z, hz⟩ : ∃ z, xs.length = z := ⟨_, rfl⟩
          rw [hz] at hst hcap m1 hno hso
          rcases z with _ | z
          · have HNO2 := Lib.hid (hno rfl)
            clear hno hso
            go_wp2_with (go_at_call 125; refine (len_any _ _ _ _).mono ?_; rintro e w4 ⟨rfl, rfl⟩)
            refine bodyPost_ret (v := .tuple #[.int .i64 0, .bool false]) (by simp [results, Try.results80, go_sem]) rfl ?_
            rw [HNO2.out]
            exact ⟨rfl, hbel⟩
          · have HSO2 := Lib.hid (hso (by omega))
            clear hno hso
            have hpo : ∃ g, A2 = some ⟨g, 0, none⟩ := by
              obtain ⟨g, c3, e, _⟩ := hp_cell (by rw [← hz] at hst; exact hst) 0 (by omega)
              injection e with e
              exact ⟨g, e⟩
            obtain ⟨g, rfl⟩ := hpo
            have hpop := hpop_any w1.heap.size (w1.heap.size + 1) g z c2 xs hz (by omega) (by omega) _ hst
            obtain ⟨y, hy⟩ : ∃ y, xs.getD 0 0 = y := ⟨_, rfl⟩
            rw [hy] at hpop
            have HY := Lib.hid hy; clear hy
            have HPOP' := Lib.hid hpop; clear hpop
            obtain ⟨m, hmz⟩ : ∃ m, m = z + 1 := ⟨_, rfl⟩
            have hm0 : ((m : Int) == 0) = false := by simp; omega
            rw [← hmz] at m1 hst
            clear hmz
            go_wp2_with (first | (go_at_call 125; refine (len_any _ _ _ _).mono ?_; rintro e w4 ⟨rfl, rfl⟩) | fail)
            refine HPOP'.out.mono ?_
            rintro e w5 ⟨rfl, hG5⟩
            go_wp2
            refine bodyPost_ret (v := .tuple #[.int .i64 y, .bool true]) (by simp [results, Try.results80, go_sem]) rfl ?_
            rw [HSO2.out.1, HSO2.out.2, HY.out]
            exact ⟨rfl, hbel.trans (hg_below hG5 (by omega) (by omega) (by omega))⟩
        · intro x cc w4 cnt1 hx hwc hlx hat hrg1 hlt hg1 hs1' hen
          have hc : cc = (cntB vs view x : Int) := ch_at hC hx (hat _)
          have hst1 := hp_next hst hrg hg1
          have hbel1 := hbel.grown hg1 (by omega) (fun j hj => by cases hj; omega)
          subst hc
          by_cases hen2 : need ≤ (cntB vs view x : Int)
          · have hpu := hpush_any w1.heap.size (w1.heap.size + 1) v xs x (by omega) w4 (by omega) hst1 hW.out.1
            have HPU := Lib.hid hpu; clear hpu
            go_wp2_with (go_at_call 100; refine HPU.out.mono ?_; rintro e w5 ⟨rfl, ⟨v5, ys, hyl, hym, hyh, hst5⟩, hG5⟩)
            have hrg5 := ranges_hg hrg1 hG5 hst1
            have hgs := hG5.size
            go_roundw
            case rel =>
              exact ⟨_, cnt1, v5, ys, hrg5, hst5, win_add hW.out hx hen2 hyh hym, by omega, hbel1.trans (hg_below hG5 (by omega) (by omega) (by omega)), by omega⟩
            case measure => rw [hrg5.left_eq, hrg.left_eq]; exact hlt
          · have hf : decide (need ≤ (cntB vs view x : Int)) = false := by simpa using hen2
            have HW2 := Lib.hid (win_keep hW.out hen2)
            go_wp2
            go_roundw
            case rel => exact ⟨_, cnt1, v, xs, hrg1, hst1, HW2, by omega, hbel1, by omega⟩
            case measure => rw [hrg1.left_eq, hrg.left_eq]; exact hlt
end Go.Proofs.Ytfebeafonifpdaa.V
