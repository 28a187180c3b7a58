/-
  placeOf, ballotsOf and add of the program: contracts. No statement is proved here.
-/
import Derived.Test.YtfebeafonifpdaaImplTallyOk
import Derived.Test.YtfebeafonifpdaaPlaces
set_option linter.unusedVariables false
set_option maxRecDepth 100000
namespace Go.Proofs.Ytfebeafonifpdaa.V
open Go.RowKit Go.Proofs.Ytfebeafonifpdaa.B

theorem placeOf_any (a b c : Int) (w : World) : Calls Try.prog 97 #[.agg #[.int .i64 a, .int .i64 b, .int .i64 c]] w fun e w' => e = .returned (.agg #[.int .i64 b, .int .i64 a]) ∧ Below w.heap.size w w' := by
  go_enter Try.func97, Try.ntmps97
  go_wp2
  refine bodyPost_ret (v := .agg #[.int .i64 b, .int .i64 a]) (by simp [results, Try.results97, go_sem]) rfl ?_
  refine ⟨rfl, ?_⟩
  repeat (first | exact Below.refl _ _ | refine Below.alloc ?_ (by simp) _ | refine Below.setCell ?_ (by simp) _)
theorem wf_of_ok {u : B3} (h : b3Ok u = true) : wfI u.1 ∧ wfI u.2.1 ∧ wfI u.2.2 := by
  simp [b3Ok, viewB, valB] at h
  refine ⟨WalkArith.wf_i64 (by omega), WalkArith.wf_i64 (by omega), WalkArith.wf_i64 (by omega)⟩
def before3 (p u : B3) : Prop := p.2.1 < u.2.1 ∨ p.2.1 = u.2.1 ∧ p.1 < u.1
theorem cmp_lt {p u : B3} : cmp3 p u < 0 ↔ before3 p u := by
  unfold cmp3 before3
  split
  · split <;> omega
  · split
    · omega
    · split <;> omega
/-- A valid tally: each ballot is valid, and all stand in their order. -/
theorem sorted_of {vs : List B3} (h : tallyOkB vs = true) : ∀ i j, i < j → j < vs.length → before3 (vs.getD i z3) (vs.getD j z3) := by
  have hg : ∀ k, k < vs.length → goodB vs k = true := fun k hk => List.all_eq_true.1 h k (List.mem_range.2 hk)
  have h1 : ∀ j, 0 < j → j < vs.length → before3 (vs.getD (j - 1) z3) (vs.getD j z3) := fun j h0 hj => by
    have := hg j hj
    unfold goodB at this
    simp only [Bool.and_eq_true, Bool.or_eq_true, decide_eq_true_eq] at this
    rcases this.2 with h2 | h2
    · omega
    · exact cmp_lt.1 h2
  intro i j
  induction j with
  | zero => intro h2; omega
  | succ j ih =>
    intro hij hj
    have h3 := h1 (j + 1) (by omega) hj
    simp only [Nat.add_sub_cancel] at h3
    by_cases e : i = j
    · subst e; exact h3
    · have h4 := ih (by omega) (by omega)
      unfold before3 at *
      omega
theorem ok_of {vs : List B3} (h : tallyOkB vs = true) (k : Nat) (hk : k < vs.length) : b3Ok (vs.getD k z3) = true := by
  have := List.all_eq_true.1 h k (List.mem_range.2 hk)
  unfold goodB at this
  simp only [Bool.and_eq_true] at this
  exact this.1
theorem fresh_of {vs : List B3} (h : tallyOkB vs = true) (k : Nat) (hk : k < vs.length) : foundQ (vs.take k) (vs.getD k z3).2.1 (vs.getD k z3).1 = false := by
  unfold foundQ
  rw [Option.isSome_eq_false_iff, Option.isNone_iff_eq_none, List.find?_eq_none]
  intro x hx
  obtain ⟨i, hi, rfl⟩ := List.mem_take_iff_getElem.1 hx
  have hs := sorted_of h i k (by omega) hk
  have e : vs.getD i z3 = vs[i] := by simp [List.getD_eq_getElem?_getD, List.getElem?_eq_getElem (show i < vs.length by omega)]
  rw [e] at hs
  unfold before3 at hs
  simp only [isOf, decide_eq_true_eq]
  omega

set_option maxHeartbeats 3200000 in
theorem ballotsOf_yes (A : Option Addr) (c : Nat) (vs : List B3) (hq : tallyOkB vs = true) (w : World) (hr : Rd3 w w.heap.size A vs) (hn : vs.length ≤ 1048576) :
    Calls Try.prog 98 #[.agg #[.slice A vs.length c]] w fun e w' => ∃ b, e = .returned (.tuple #[.map (some b), .bool true]) ∧ w.heap.size ≤ b ∧ Bals w' (.map (some b)) vs ∧ Below w.heap.size w w' := by
  have hmm := @run_makeMap Try.prog
  obtain ⟨n, hvn⟩ : ∃ n, vs.length = n := ⟨_, rfl⟩
  have hok := fun W h => implTallyOk_is true A c vs hq W h hn
  have hfr := fresh_of hq
  have hbo := fun k hk => wf_of_ok (ok_of hq k hk)
  rw [hvn] at hn hok hfr hbo ⊢
  have HOK := Lib.hid hok; clear hok
  have HFR := Lib.hid hfr; clear hfr
  have HBO := Lib.hid hbo; clear hbo hq
  have HV := Lib.hid hvn; clear hvn
  have HB := Lib.hid (tally_box w A n c)
  have hr0 := hr.up (.cells #[.slice A n c] 96)
  have hs0 : (w.alloc (.cells #[.slice A n c] 96)).heap.size = w.heap.size + 1 := by simp
  have HR : Hid (∀ wr, Below (w.heap.size + 1) (w.alloc (.cells #[.slice A n c] 96)) wr → Rd3 wr w.heap.size A vs ∧ w.heap.size + 1 ≤ wr.heap.size) := fun wr h => ⟨hr.below (HB.out wr h).2, by have := h.size; omega⟩
  clear hs0 hr
  go_enter Try.func98, Try.ntmps98
  go_wp2_with fail
  refine (HOK.out _ hr0).mono ?_
  rintro e w1 ⟨rfl, hb1⟩
  have hbl1 : Below (w.heap.size + 1) (w.alloc (.cells #[.slice A n c] 96)) w1 := by simpa using hb1
  have rb1 := (HB.out w1 hbl1).1.rule
  have hs1 : w.heap.size + 1 ≤ w1.heap.size := (HR.out w1 hbl1).2
  have hrr := fun O : Obj => (((HB.out w1 hbl1).1.alloc O).cell 0)
  clear hb1 hr0
  go_wp2
  go_loopw [14] (fun i wr => ∃ (k : Nat), k ≤ n ∧ i = .int .i64 k ∧ Bals wr (.map (some w1.heap.size)) (vs.take k) ∧ Below (w.heap.size + 1) (w.alloc (.cells #[.slice A n c] 96)) wr) (fun i _ => n - (intOf i).toNat)
  case atStart => exact ⟨0, Nat.zero_le _, rfl, .inr ⟨_, _, rfl, World.ownsMap_made _ _ _ _, holds_nil⟩, hbl1.alloc hs1 _⟩
  case round =>
    clear rb1 hrr hmm
    obtain ⟨k, hk, rfl, hbal, hbel⟩ := hrel
    obtain ⟨kb, hbw⟩ := HB.out wr hbel
    obtain ⟨hr1, hsz⟩ := HR.out wr hbel
    have rb := kb.rule
    by_cases hlt : k < n
    · obtain ⟨b, off, rfl, hb, hc0, hc1, hc2⟩ := Rd3.at_ hr1 (k := k) (by rw [HV.out]; omega)
      have hfk := HFR.out k hlt
      obtain ⟨hw1, hw2, hw3⟩ := HBO.out k hlt
      have htk := take_get vs z3 k (by rw [HV.out]; exact hlt)
      obtain ⟨⟨ua, ub, uc⟩, hu⟩ : ∃ v, vs.getD k z3 = v := ⟨_, rfl⟩
      rw [hu] at hc0 hc1 hc2 hfk hw1 hw2 hw3 htk
      clear hu hr1
      have HTK := Lib.hid htk; clear htk
      have kx : Blk (wr.alloc (.cells #[.int .i64 ua, .int .i64 ub, .int .i64 uc] 54)) wr.heap.size 54 #[.int .i64 ua, .int .i64 ub, .int .i64 uc] := Blk.new wr _ _
      have rx := kx.rule
      have hba := hbal.alloc (.cells #[.int .i64 ua, .int .i64 ub, .int .i64 uc] 54)
      have hbx : Below (w.heap.size + 1) (w.alloc (.cells #[.slice (some ⟨b, off, none⟩) n c] 96)) (wr.alloc (.cells #[.int .i64 ua, .int .i64 ub, .int .i64 uc] 54)) := hbel.alloc hsz _
      have hsx : w.heap.size + 1 ≤ (wr.alloc (.cells #[.int .i64 ua, .int .i64 ub, .int .i64 uc] 54)).heap.size := by simp; omega
      have hlk : (vs.take k).length < maxLen := by rw [List.length_take]; simp only [maxLen]; omega
      clear hbal
      go_wp2
      refine wp_region_any (by kernel_rfl) ?_
      change wpAny _ _ _ _ _ _ _ (World.drew _)
      refine wpAny_take (i := 0) (v := ?v0) rfl (by kernel_rfl) (by kernel_rfl) (by kernel_rfl) (fun _ _ _ h => h) (Or.inl ⟨by rfl, ?h0⟩) ?r0
      case h0 => intro w; go_simp; try with_reducible rfl
      case r0 =>
        refine wpAny_take (i := 3) (v := ?v3) rfl (by kernel_rfl) (by kernel_rfl) (by kernel_rfl) (fun _ _ _ h => h) (Or.inl ⟨by rfl, ?h3⟩) ?r3
        case h3 => intro w; go_simp; try with_reducible rfl
        case r3 =>
          refine wpAny_ready (rs := [1, 4]) (by kernel_rfl) (by simp) ?_
          refine AllReady.cons rfl (fun K hK => ?_) (AllReady.cons rfl (fun K hK => ?_) AllReady.nil)
          · go_simp
            refine hK _ _ ?_
            clear hK K
            refine wpAny_ready (rs := [2, 4]) (by kernel_rfl) (by simp) ?_
            refine AllReady.cons rfl (fun K hK => ?_) (AllReady.cons rfl (fun K hK => ?_) AllReady.nil)
            · skip
              go_simp
              go_at_call 97
              refine (placeOf_any ua ub uc _).mono ?_
              rintro e w2 ⟨rfl, hb2⟩
              have kx2 := (kx.drewN 1).on hb2
              have rx2 := kx2.rule
              refine hK _ _ ?_
              clear hK K
              refine wpAny_ready (rs := [4]) (by kernel_rfl) (by simp) ?_
              refine AllReady.cons rfl (fun K hK => ?_) AllReady.nil
              go_simp
              refine hK _ _ ?_
              clear hK K
              refine wpAny_ready (rs := [5]) (by kernel_rfl) (by simp) ?_
              refine AllReady.cons rfl (fun K hK => ?_) AllReady.nil
              refine step_store_bals rfl _ _ _ rfl w1.heap.size (vs.take k) (ua, ub, uc) rfl rfl rfl (hba.drew.on hb2) hlk hw1 hw2 hw3 hfk ?_
              intro w3 hb3 hg3
              refine hK _ _ ?_
              clear hK K
              refine ⟨by kernel_rfl, ?_⟩
              go_wp2
              go_roundw
              case rel =>
                refine ⟨k + 1, by omega, by go_num, by rw [HTK.out]; exact hb3, ?_⟩
                exact (hbx.drew.trans (hb2.mono (by simpa using hsx))).grown hg3 (Nat.le_trans hsx (by simpa using hb2.size)) (fun j hj => by injection hj with hj; omega)
              case measure => simp [intOf]; omega
            · go_simp
              refine hK _ _ ?_
              clear hK K
              refine wpAny_ready (rs := [2]) (by kernel_rfl) (by simp) ?_
              refine AllReady.cons rfl (fun K hK => ?_) AllReady.nil
              go_simp
              go_at_call 97
              refine (placeOf_any ua ub uc _).mono ?_
              rintro e w2 ⟨rfl, hb2⟩
              have kx2 := (kx.drewN 1).on hb2
              have rx2 := kx2.rule
              refine hK _ _ ?_
              clear hK K
              refine wpAny_ready (rs := [5]) (by kernel_rfl) (by simp) ?_
              refine AllReady.cons rfl (fun K hK => ?_) AllReady.nil
              refine step_store_bals rfl _ _ _ rfl w1.heap.size (vs.take k) (ua, ub, uc) rfl rfl rfl (hba.drew.on hb2) hlk hw1 hw2 hw3 hfk ?_
              intro w3 hb3 hg3
              refine hK _ _ ?_
              clear hK K
              refine ⟨by kernel_rfl, ?_⟩
              go_wp2
              go_roundw
              case rel =>
                refine ⟨k + 1, by omega, by go_num, by rw [HTK.out]; exact hb3, ?_⟩
                exact (hbx.drew.trans (hb2.mono (by simpa using hsx))).grown hg3 (Nat.le_trans hsx (by simpa using hb2.size)) (fun j hj => by injection hj with hj; omega)
              case measure => simp [intOf]; omega
          · go_simp
            refine hK _ _ ?_
            clear hK K
            refine wpAny_ready (rs := [1]) (by kernel_rfl) (by simp) ?_
            refine AllReady.cons rfl (fun K hK => ?_) AllReady.nil
            go_simp
            refine hK _ _ ?_
            clear hK K
            refine wpAny_ready (rs := [2]) (by kernel_rfl) (by simp) ?_
            refine AllReady.cons rfl (fun K hK => ?_) AllReady.nil
            go_simp
            go_at_call 97
            refine (placeOf_any ua ub uc _).mono ?_
            rintro e w2 ⟨rfl, hb2⟩
            have kx2 := (kx.drewN 1).on hb2
            have rx2 := kx2.rule
            refine hK _ _ ?_
            clear hK K
            refine wpAny_ready (rs := [5]) (by kernel_rfl) (by simp) ?_
            refine AllReady.cons rfl (fun K hK => ?_) AllReady.nil
            refine step_store_bals rfl _ _ _ rfl w1.heap.size (vs.take k) (ua, ub, uc) rfl rfl rfl (hba.drew.on hb2) hlk hw1 hw2 hw3 hfk ?_
            intro w3 hb3 hg3
            refine hK _ _ ?_
            clear hK K
            refine ⟨by kernel_rfl, ?_⟩
            go_wp2
            go_roundw
            case rel =>
              refine ⟨k + 1, by omega, by go_num, by rw [HTK.out]; exact hb3, ?_⟩
              exact (hbx.drew.trans (hb2.mono (by simpa using hsx))).grown hg3 (Nat.le_trans hsx (by simpa using hb2.size)) (fun j hj => by injection hj with hj; omega)
            case measure => simp [intOf]; omega
    · obtain rfl : k = n := by omega
      go_wp2
      refine bodyPost_ret (v := .tuple #[.map (some w1.heap.size), .bool true]) (by simp [results, Try.results98, go_sem]) rfl ?_
      refine ⟨_, rfl, by omega, ?_, hbw⟩
      rwa [← HV.out, List.take_length] at hbal

theorem ballotsOf_no (A : Option Addr) (c : Nat) (vs : List B3) (hq : tallyOkB vs = false) (w : World) (hr : Rd3 w w.heap.size A vs) (hn : vs.length ≤ 1048576) :
    Calls Try.prog 98 #[.agg #[.slice A vs.length c]] w fun e w' => e = .returned (.tuple #[.map none, .bool false]) ∧ Below w.heap.size w w' := by
  have hr0 := hr.up (.cells #[.slice A vs.length c] 96)
  have HR := Lib.hid hr0; clear hr0 hr
  go_enter Try.func98, Try.ntmps98
  go_wp2_with fail
  refine (implTallyOk_is false A c vs hq _ HR.out hn).mono ?_
  rintro e w1 ⟨rfl, hb1⟩
  have hB1 := on_ (up_ (Below.refl w.heap.size w) _) hb1
  clear hb1
  go_wp2
  refine bodyPost_ret (v := .tuple #[.map none, .bool false]) (by simp [results, Try.results98, go_sem]) rfl ?_
  exact ⟨rfl, hB1⟩

/-- The ballots of a valid tally; of another one none. -/
def goodL (vs : List B3) : List B3 := if tallyOkB vs then vs else []
theorem ballotsOf_any (A : Option Addr) (c : Nat) (vs : List B3) (w : World) (hr : Rd3 w w.heap.size A vs) (hn : vs.length ≤ 1048576) :
    Calls Try.prog 98 #[.agg #[.slice A vs.length c]] w fun e w' => ∃ o, e = .returned (.tuple #[.map o, .bool (tallyOkB vs)]) ∧ (∀ b, o = some b → w.heap.size ≤ b) ∧ Bals w' (.map o) (goodL vs) ∧ Below w.heap.size w w' := by
  rcases hq : tallyOkB vs with _ | _
  · refine (ballotsOf_no A c vs hq w hr hn).mono ?_
    rintro e w' ⟨rfl, hb⟩
    exact ⟨none, rfl, (fun b h => by cases h), Or.inl ⟨rfl, by simp [goodL, hq]⟩, hb⟩
  · refine (ballotsOf_yes A c vs hq w hr hn).mono ?_
    rintro e w' ⟨b, rfl, h1, h2, hb⟩
    refine ⟨some b, rfl, (fun b' h => by cases h; exact h1), ?_, hb⟩
    simpa [goodL, hq] using h2
end Go.Proofs.Ytfebeafonifpdaa.V
