/-
  SizeOk and Silent of the model: contracts. No statement is proved here.
-/
import Derived.Test.YtaegcdbgnjlbdaaTallyViews
set_option linter.unusedVariables false
set_option maxRecDepth 100000
namespace Go.Proofs.Ytaegcdbgnjlbdaa.V
open Go.RowKit Go.Proofs.Ytaegcdbgnjlbdaa.B

def sizeB (n : Int) : Bool := decide (n = 4) || decide (n = 7)
theorem specSize_any (n : Int) (w : World) : Calls Try.prog 19 #[.int .i64 n] w fun e w' => e = .returned (.bool (sizeB n)) ∧ w' = w := by
  unfold sizeB
  by_cases h1 : n = 4
  · subst h1
    go_enter Try.func19, Try.ntmps19
    go_wp2
    go_ret
    exact ⟨rfl, rfl⟩
  · have hf : (n == 4) = false := by simpa using h1
    by_cases h2 : n = 7
    · subst h2
      go_enter Try.func19, Try.ntmps19
      go_wp2
      go_ret
      exact ⟨rfl, rfl⟩
    · have hf2 : (n == 7) = false := by simpa using h2
      go_enter Try.func19, Try.ntmps19
      go_wp2
      go_ret
      exact ⟨ret_boolB (by simp [h1, h2]), rfl⟩
theorem specSize_is (n : Int) (q : Bool) (h : sizeB n = q) (w : World) : Calls Try.prog 19 #[.int .i64 n] w fun e w' => e = .returned (.bool q) ∧ w' = w := by
  rw [← h]; exact specSize_any n w

def silentK (vs : List B3) (view : Int) (k : Nat) : List Int := ((List.range k).filter (fun (i : Nat) => !(foundQ vs view (i : Int)))).map (fun (i : Nat) => (i : Int))
theorem silentK_step (vs : List B3) (view : Int) (k : Nat) : silentK vs view (k + 1) = silentK vs view k ++ (if foundQ vs view (k : Int) then [] else [(k : Int)]) := by
  unfold silentK
  rw [List.range_succ, List.filter_append, List.map_append]
  congr 1
  rcases h1 : foundQ vs view (k : Int) with _ | _ <;> simp [List.filter, h1]
theorem silentK_le (vs : List B3) (view : Int) (k : Nat) : (silentK vs view k).length ≤ k := by
  simp only [silentK, List.length_map]
  exact Nat.le_trans (List.length_filter_le _ _) (by simp)

set_option maxHeartbeats 1600000 in
theorem specSilent_yes (n : Nat) (view : Int) (A : Option Addr) (c : Nat) (vs : List B3) (hsz : sizeB (n : Int) = true) (hn7 : n ≤ 7) (hq : tallyOkB vs = true) (w : World) (hr : Rd3 w w.heap.size A vs) (hn : vs.length ≤ 1048576) :
    Calls Try.prog 35 #[.int .i64 n, .agg #[.slice A vs.length c], .int .i64 view] w (NRes (silentK vs view n) w) := by
  obtain ⟨i0, hi0, hz0, hz1, hz2⟩ := info_parts infoI
  obtain ⟨l, hvl⟩ : ∃ l, vs.length = l := ⟨_, rfl⟩
  have hok := fun W h => specTallyOk_is true A c vs hq W h hn
  have htold := fun who W h => l2told_any view who A c vs W h hn
  have hsize := fun W => specSize_is (n : Int) true hsz W
  rw [hvl] at hok htold ⊢
  have HOK := Lib.hid hok; clear hok hq
  have HT := Lib.hid htold; clear htold
  have HS := Lib.hid hsize; clear hsize hsz hvl hn
  have HB := Lib.hid (tally_box w A l c)
  have hr0 := hr.up (.cells #[.slice A l c] 44)
  have hs0 : (w.alloc (.cells #[.slice A l c] 44)).heap.size = w.heap.size + 1 := by simp
  have HR : Hid (∀ wr, Below (w.heap.size + 1) (w.alloc (.cells #[.slice A l c] 44)) wr → Rd3 wr wr.heap.size A vs ∧ w.heap.size + 1 ≤ wr.heap.size) := fun wr h => ⟨(hr.below (HB.out wr h).2).more (HB.out wr h).2.size, by have := h.size; omega⟩
  have HR0 := Lib.hid hr0
  clear hs0 hr hr0
  go_enter Try.func35, Try.ntmps35
  go_wp2_with (go_at_call 19; refine (HS.out _).mono ?_; rintro e w0 ⟨rfl, rfl⟩)
  refine (HOK.out _ HR0.out).mono ?_
  rintro e w1 ⟨rfl, hb1⟩
  have hbl1 : Below (w.heap.size + 1) (w.alloc (.cells #[.slice A l c] 44)) w1 := by simpa using hb1
  clear hb1
  go_wp2
  go_loopw [7, 8] (fun out i wr => ∃ (k : Nat) (xs : List Int), k ≤ n ∧ i = .int .i64 k ∧ Hid (silentK vs view k = xs) ∧ xs.length ≤ k ∧ wr.ownsRow (w.heap.size + 1) 3 1 out xs.length (ic xs) ∧ Below (w.heap.size + 1) (w.alloc (.cells #[.slice A l c] 44)) wr) (fun _ i _ => n - (intOf i).toNat)
  case atStart => exact ⟨0, [], Nat.zero_le _, rfl, rfl, Nat.le_refl _, World.ownsRow_nil _ _ _ _, hbl1⟩
  case round =>
    clear hbl1
    obtain ⟨k, xs, hk, rfl, hxs, hxl, hown, hbel⟩ := hrel
    obtain ⟨kb, hbw⟩ := HB.out wr hbel
    obtain ⟨hr1, hsz⟩ := HR.out wr hbel
    have rb := kb.rule
    by_cases hlt : k < n
    · have hst := silentK_step vs view k
      rw [hxs.out] at hst
      have HST := Lib.hid hst; clear hst
      rcases hf : foundQ vs view (k : Int) with _ | _
      · have HN : Hid (silentK vs view (k + 1) = xs ++ [(k : Int)]) := by show _ = _; rw [HST.out]; simp [hf]
        have ht := HT.out (k : Int) wr hr1
        rw [hf] at ht
        clear hf
        go_wp2_with fail
        refine ht.mono ?_
        rintro e w2 ⟨rfl, hb2⟩
        have hbel2 := hbel.trans (hb2.mono hsz)
        have hown2 := own_onB hown hb2
        have hsz2 := (HR.out _ hbel2).2
        clear hb2
        go_wp2_with (at_builtin; refine wpList_append_any _ rfl (.tmp 33) (.tmp 35) 47 rfl (w.heap.size + 1) 3 i0 _ 1 8 Try.underlying47 hi0 hz0 hz1 hz2 rfl (by omega) u7 xs.length (ic xs) rfl (hown2.alloc _) _ _ 1 1 [.int .i64 (k : Int)] rfl (lit_int w2 _) (by simp [Value.oneCell']) (by simp only [maxLen]; omega) (by omega) (by simp; omega) ?_; intro v3 w3 hown3 hgr3 hat3; have hbel3 := (hbel2.alloc hsz2 _).grown hgr3 (by simp; omega) (fun j hj => (hown2.lt j hj).1))
        go_roundw
        case rel => exact ⟨k + 1, xs ++ [(k : Int)], by omega, by go_num, HN, by simp; omega, own_app1 hown3, hbel3⟩
        case measure => simp [intOf]; omega
      · have HN : Hid (silentK vs view (k + 1) = xs) := by show _ = _; rw [HST.out]; simp [hf]
        have ht := HT.out (k : Int) wr hr1
        rw [hf] at ht
        clear hf
        go_wp2_with fail
        refine ht.mono ?_
        rintro e w2 ⟨rfl, hb2⟩
        have hbel2 := hbel.trans (hb2.mono hsz)
        have hown2 := own_onB hown hb2
        clear hb2
        go_wp2
        go_roundw
        case rel => exact ⟨k + 1, xs, by omega, by go_num, HN, by omega, hown2, hbel2⟩
        case measure => simp [intOf]; omega
    · obtain rfl : k = n := by omega
      go_wp2
      go_ret
      refine ⟨_, rfl, ?_, hbw⟩
      rw [hxs.out]
      exact own_more3 hown (by omega)

def silentR (n : Int) (vs : List B3) (view : Int) : List Int := if sizeB n && tallyOkB vs then silentK vs view n.toNat else []
theorem silentR_le (n : Int) (vs : List B3) (view : Int) : (silentR n vs view).length ≤ 7 := by
  unfold silentR
  split
  · rename_i h
    simp only [sizeB, Bool.and_eq_true, Bool.or_eq_true, decide_eq_true_eq] at h
    exact Nat.le_trans (silentK_le _ _ _) (by omega)
  · simp
theorem specSilent_any (n view : Int) (A : Option Addr) (c : Nat) (vs : List B3) (w : World) (hr : Rd3 w w.heap.size A vs) (hn : vs.length ≤ 1048576) :
    Calls Try.prog 35 #[.int .i64 n, .agg #[.slice A vs.length c], .int .i64 view] w (NRes (silentR n vs view) w) := by
  rcases hs : sizeB n with _ | _
  · have e : silentR n vs view = [] := by simp [silentR, hs]
    rw [e]
    have hsize := fun W => specSize_is n false hs W
    have HS := Lib.hid hsize; clear hsize hs e hr
    go_enter Try.func35, Try.ntmps35
    go_wp2_with (go_at_call 19; refine (HS.out _).mono ?_; rintro e w0 ⟨rfl, rfl⟩)
    go_ret
    exact no_ints _ _ ((Below.refl _ _).alloc (Nat.le_refl _) _)
  · rcases hq : tallyOkB vs with _ | _
    · have e : silentR n vs view = [] := by simp [silentR, hq]
      rw [e]
      have hr0 := hr.up (.cells #[.slice A vs.length c] 44)
      have HR := Lib.hid hr0; clear hr0 hr
      have HQ := Lib.hid hq; clear hq e
      have hsize := fun W => specSize_is n true hs W
      have HS := Lib.hid hsize; clear hsize hs
      go_enter Try.func35, Try.ntmps35
      go_wp2_with (go_at_call 19; refine (HS.out _).mono ?_; rintro e w0 ⟨rfl, rfl⟩)
      refine (specTallyOk_is false A c vs HQ.out _ HR.out hn).mono ?_
      rintro e w1 ⟨rfl, hb1⟩
      have hB1 := on_ (up_ (Below.refl w.heap.size w) _) hb1
      clear hb1
      go_wp2
      go_ret
      exact no_ints _ _ hB1
    · have e : silentR n vs view = silentK vs view n.toNat := by simp [silentR, hs, hq]
      rw [e]
      have h1 : n = 4 ∨ n = 7 := by simpa [sizeB] using hs
      obtain ⟨m, rfl⟩ : ∃ m : Nat, n = m := ⟨n.toNat, by omega⟩
      exact specSilent_yes m view A c vs hs (by omega) hq w hr hn
end Go.Proofs.Ytaegcdbgnjlbdaa.V
