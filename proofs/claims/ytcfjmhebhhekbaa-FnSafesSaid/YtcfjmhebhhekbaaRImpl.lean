/-
  ReportBy and AddReport of the program: contracts. No statement is proved here.
-/
import Derived.Test.YtcfjmhebhhekbaaRMath
import Derived.Test.YtcfjmhebhhekbaaL3Draw
import Derived.Test.YtcfjmhebhhekbaaRMarks
import Derived.Deep.RegionLaw
set_option linter.unusedVariables false
set_option maxRecDepth 100000
namespace Go.Proofs.Ytcfjmhebhhekbaa.V
open Go.RowKit Go.Proofs.Ytcfjmhebhhekbaa.B

theorem pcells_put (qs : List Pp) (i : Nat) (hi : i < qs.length) (p : Pp) : ((((pcells qs).set (i * 4) (.int .i64 p.r.f)).set (i * 4 + 1) (.int .i64 p.r.v)).set (i * 4 + 2) (.int .i64 p.r.x)).set (i * 4 + 3) (.slice p.A p.r.vs.length p.c) = pcells (qs.set i p) := by
  induction qs generalizing i with
  | nil => simp at hi
  | cons q qs ih =>
    cases i with
    | zero => simp [pcells, pc1]
    | succ i =>
      have := ih i (by simpa using hi)
      have e0 : (i + 1) * 4 = (i * 4) + 4 := by omega
      have e1 : (i + 1) * 4 + 1 = (i * 4 + 1) + 4 := by omega
      have e2 : (i + 1) * 4 + 2 = (i * 4 + 2) + 4 := by omega
      have e3 : (i + 1) * 4 + 3 = (i * 4 + 3) + 4 := by omega
      rw [e1, e2, e3, e0, List.set_cons_succ]
      simp only [pcells, List.flatMap_cons] at this ⊢
      rw [← this]
      simp [pc1]
theorem set_same {α : Type} (l : List α) (k : Nat) (a : α) (h : l[k]? = some a) : l.set k a = l := by
  apply List.ext_getElem?
  intro i
  by_cases e : k = i
  · subst e
    rw [List.getElem?_set_self (List.getElem?_eq_some_iff.1 h).1, h]
  · rw [List.getElem?_set_ne e]
/-- The cells of an own row, and what a store of a whole report leaves. -/
theorem own_put {w : World} {base t n c : Nat} {B : Option Addr} {qs : List Pp} (h : w.ownsRow base t 4 (.slice B n c) n (pcells qs)) {i : Nat} (hi : i < qs.length) :
    ∃ g, B = some ⟨g, 0, none⟩ ∧ base ≤ g ∧ g < w.heap.size ∧ four (fun j => w.cell? ⟨g, i * 4 + j, none⟩) (qs.getD i zP) ∧ (∀ o, w.frozen? ⟨g, o, none⟩ = false) ∧
      ∀ p : Pp, ((((w.setCell ⟨g, i * 4, none⟩ (.int .i64 p.r.f)).setCell ⟨g, i * 4 + 1, none⟩ (.int .i64 p.r.v)).setCell ⟨g, i * 4 + 2, none⟩ (.int .i64 p.r.x)).setCell ⟨g, i * 4 + 3, none⟩ (.slice p.A p.r.vs.length p.c)).ownsRow base t 4 (.slice B n c) n (pcells (qs.set i p)) := by
  obtain ⟨hl, h⟩ := h
  have hn : n = qs.length := by rw [pcells_len] at hl; omega
  rcases h with ⟨h1, h2⟩ | ⟨g, cap, cur, h1, h2, h3, h4, h5, h6, h7⟩
  · omega
  · injection h1 with h1 h1a h1b
    have hk : Blk w g t cur := h3
    refine ⟨g, h1, h2, hk.lt, four_of hi fun j hj => ?_, fun o => hk.frozen o, fun p => ⟨?_, .inr ⟨g, cap, _, by rw [h1, h1b], h2, (((hk.set_ _ _).set_ _ _).set_ _ _).set_ _ _, h4, h5, by simpa using h6, ?_⟩⟩⟩
    · rw [hk.cell, ← h7, List.getElem?_take_of_lt (by omega)]
      simp
    · rw [pcells_len, List.length_set]; omega
    · rw [Array.toList_setIfInBounds, Array.toList_setIfInBounds, Array.toList_setIfInBounds, Array.toList_setIfInBounds, List.take_set, List.take_set, List.take_set, List.take_set, h7, pcells_put qs i hi p]
/-- The first k of the reports ys have votes of the call's own, apart from each other. -/
def OwnV (w : World) (base : Nat) (ys : List Pp) (k : Nat) (gs : Nat → Nat) : Prop :=
  (∀ i, i < k → 0 < (ys.getD i zP).r.vs.length → (ys.getD i zP).A = some ⟨gs i, 0, none⟩ ∧ base ≤ gs i ∧ ∃ cs, Blk w (gs i) 25 cs ∧ (ys.getD i zP).r.vs.length * 2 ≤ cs.size ∧ PV cs (ys.getD i zP).r.vs) ∧
  ∀ i i', i < i' → i' < k → 0 < (ys.getD i zP).r.vs.length → 0 < (ys.getD i' zP).r.vs.length → gs i < gs i'
theorem getD_set_ne {ys : List Pp} {k i : Nat} {p : Pp} (h : i ≠ k) : (ys.set k p).getD i zP = ys.getD i zP := by
  rw [List.getD_eq_getElem?_getD, List.getD_eq_getElem?_getD, List.getElem?_set_ne (Ne.symm h)]
theorem getD_set_eq {ys : List Pp} {k : Nat} {p : Pp} (h : k < ys.length) : (ys.set k p).getD k zP = p := by
  rw [List.getD_eq_getElem?_getD, List.getElem?_set_self h]; rfl
theorem OwnV.keep {w w' : World} {base k : Nat} {ys : List Pp} {gs : Nat → Nat} (h : OwnV w base ys k gs) (hk : ∀ g cs, Blk w g 25 cs → Blk w' g 25 cs) : OwnV w' base ys k gs :=
  ⟨fun i hi h0 => by
    obtain ⟨a1, a2, cs, a3, a4, a5⟩ := h.1 i hi h0
    exact ⟨a1, a2, cs, hk _ _ a3, a4, a5⟩, h.2⟩
theorem OwnV.step {w w' : World} {base b2 k : Nat} {ys : List Pp} {gs : Nat → Nat} (h : OwnV w base ys k gs) (hk : ∀ g cs, Blk w g 25 cs → Blk w' g 25 cs) (hkl : k < ys.length) (p : Pp) (hb : base ≤ w.heap.size) (hb2 : w.heap.size ≤ b2)
    (hv : p.r.vs = [] ∨ ∃ g cs, p.A = some ⟨g, 0, none⟩ ∧ b2 ≤ g ∧ Blk w' g 25 cs ∧ PV cs p.r.vs ∧ p.r.vs.length * 2 ≤ cs.size) : ∃ gs', OwnV w' base (ys.set k p) (k + 1) gs' := by
  rcases hv with hv | ⟨g, cs, h1, h2, h3, h4, h5⟩
  · refine ⟨gs, fun i hi h0 => ?_, fun i i' hii hi' h0 h0' => ?_⟩
    · by_cases e : i = k
      · subst e; rw [getD_set_eq hkl, hv] at h0; simp at h0
      · rw [getD_set_ne e] at h0 ⊢
        exact (h.keep hk).1 i (by omega) h0
    · by_cases e : i' = k
      · subst e; rw [getD_set_eq hkl, hv] at h0'; simp at h0'
      · rw [getD_set_ne e] at h0'
        rw [getD_set_ne (by omega)] at h0
        exact h.2 i i' hii (by omega) h0 h0'
  · refine ⟨fun i => if i = k then g else gs i, fun i hi h0 => ?_, fun i i' hii hi' h0 h0' => ?_⟩
    · by_cases e : i = k
      · subst e
        rw [getD_set_eq hkl]
        exact ⟨by simp [h1], by simp; omega, cs, by simpa using h3, h5, h4⟩
      · rw [getD_set_ne e] at h0 ⊢
        simp only [if_neg e]
        exact (h.keep hk).1 i (by omega) h0
    · rw [getD_set_ne (show i ≠ k by omega)] at h0
      show (if i = k then g else gs i) < (if i' = k then g else gs i')
      rw [if_neg (show i ≠ k by omega)]
      obtain ⟨_, _, cs', hb', _⟩ := h.1 i (by omega) h0
      have := hb'.lt
      by_cases e : i' = k
      · rw [if_pos e]; omega
      · rw [if_neg e]
        rw [getD_set_ne e] at h0'
        exact h.2 i i' hii (by omega) h0 h0'
theorem OwnV.rd {w : World} {base : Nat} {ys : List Pp} {gs : Nat → Nat} (h : OwnV w base ys ys.length gs) (i : Nat) (hi : i < ys.length) : Rd w w.heap.size (ys.getD i zP).A (ys.getD i zP).r.vs := by
  by_cases h0 : 0 < (ys.getD i zP).r.vs.length
  · obtain ⟨a1, a2, cs, a3, a4, a5⟩ := h.1 i hi h0
    rw [a1]; exact a5.rd a3 a3.lt
  · rw [List.eq_nil_of_length_eq_zero (show (ys.getD i zP).r.vs.length = 0 by omega)]; exact Rd.nil_
/-- Reports of the call's own, all of their memory. -/
def OwnG (rs : List Rp) (w w' : World) (B : Option Addr) (d : Nat) (ys : List Pp) (gs : Nat → Nat) : Prop :=
  rl ys = rs ∧ w'.ownsRow w.heap.size 28 4 (.slice B ys.length d) ys.length (pcells ys) ∧ OwnV w' w.heap.size ys ys.length gs
theorem OwnG.rd {rs : List Rp} {w w' : World} {B : Option Addr} {d : Nat} {ys : List Pp} {gs : Nat → Nat} (h : OwnG rs w w' B d ys gs) : RdR w' w'.heap.size B ys := (RdR.of_own h.2.1 h.2.2.rd).2
theorem OwnG.mk_ {rs : List Rp} {w w' : World} {B : Option Addr} {d : Nat} {ys : List Pp} {gs : Nat → Nat} (h : OwnG rs w w' B d ys gs) (k : Int) (h0 : 0 < ys.length) : ∃ g cur, B = some ⟨g, 0, none⟩ ∧ MkQ w' g gs cur ys k 0 ∧ InQ w.heap.size w'.heap.size g gs ys := by
  obtain ⟨h1, ⟨hl, h⟩, h3, h4⟩ := h
  rcases h with ⟨e1, e2⟩ | ⟨g, cap, cur, e1, e2, e3, e4, e5, e6, e7⟩
  · omega
  · injection e1 with e1
    have hk : Blk w' g 28 cur := e3
    have hcell : ∀ i j, i < ys.length → j < 4 → cur[i * 4 + j]? = (pc1 (ys.getD i zP))[j]? := fun i j hi hj => by
      rw [← pcells_at ys i j hi hj, ← e7, List.getElem?_take_of_lt (by omega)]
      simp
    have hs : ys.length * 4 ≤ cur.size := by
      have := congrArg List.length e7
      rw [List.length_take, hl] at this
      simp at this; omega
    refine ⟨g, cur, e1, ⟨hk, hs, fun i hi => (hcell i 3 hi (by omega)).trans rfl, fun i hi h0 => ?_, fun i hi => absurd hi (by omega), fun i i' hii hi' a b => ?_⟩, e2, hk.lt, fun i hi h0 => ?_⟩
    · obtain ⟨a1, a2, cs, a3, a4, a5⟩ := h3 i hi h0
      exact ⟨a1, cs, a3, a4, fun h => absurd h (by omega)⟩
    · have := h4 i i' hii hi' a b; omega
    · obtain ⟨a1, a2, cs, a3, a4, a5⟩ := h3 i hi h0
      exact ⟨a2, a3.lt⟩
theorem get_facts (b : Nat) (n view from_ : Int) (ps : List Pp) (hq : repsOkB n view (rl ps) = true) : ∃ (P : Pp) (q : Bool), byT n view (rl ps) from_ = (P.r, q) ∧ ∀ W, SetAt W b n view (sl ps) → (Rd W W.heap.size P.A P.r.vs ∧ P.r.vs.length ≤ 1048576) ∧ Calls Try.prog 60 #[.pointer (some ⟨b, 2, none⟩), .int .i64 from_] W fun e w' => e = .returned (.tuple #[.agg #[.int .i64 P.r.f, .int .i64 P.r.v, .int .i64 P.r.x, .slice P.A P.r.vs.length P.c], .bool q]) ∧ Below W.heap.size W w' := by
  by_cases h : from_ < 0 ∨ 7 ≤ from_
  · refine ⟨zP, false, ?_, fun W hW => ⟨⟨Rd.nil_, by simp [zP, zR]⟩, get_out b from_ W h⟩⟩
    have hall : allR n view (rl ps) = true := by unfold repsOkB at hq; simp only [Bool.and_eq_true] at hq; exact hq.1
    have hn7 : n ≤ 7 := by rcases size_two (reps_size hq).1 with rfl | rfl <;> omega
    have hfnd : (rl ps).find? (fun r => decide (r.f = from_)) = none := by
      rw [List.find?_eq_none]
      intro r hr
      obtain ⟨i, hi, rfl⟩ := mem_getDR hr
      have := in_at hall i hi
      simp only [decide_eq_true_eq]; omega
    rw [byT, hq, hfnd]; rfl
  · obtain ⟨j, rfl⟩ : ∃ j : Nat, from_ = j := ⟨from_.toNat, by omega⟩
    refine ⟨(sl ps j).getD zP, (sl ps j).isSome, ?_, fun W hW => ⟨?_, ?_⟩⟩
    · rw [byT, hq, ← sl_rl]
      rcases sl ps j with _ | p <;> rfl
    · rcases hs : sl ps j with _ | p
      · exact ⟨Rd.nil_, by simp [zP, zR]⟩
      · exact hW.2 j p hs
    · exact get_in b j n view (sl ps) W hW (by omega) _ _ _ _ _ _ _ rfl rfl
set_option maxHeartbeats 1600000 in
theorem implBy_any (n view from_ : Int) (A : Option Addr) (c : Nat) (ps : List Pp) (rs : List Rp) (e0 : rl ps = rs) (w : World) (hr : RdR w w.heap.size A ps) (hf : Few ps) :
    Calls Try.prog 25 #[.int .i64 n, .int .i64 view, .slice A ps.length c, .int .i64 from_] w fun e w' => ∃ B d, e = .returned (.tuple #[.agg #[.int .i64 (byT n view rs from_).1.f, .int .i64 (byT n view rs from_).1.v, .int .i64 (byT n view rs from_).1.x, .slice B (byT n view rs from_).1.vs.length d], .bool (byT n view rs from_).2]) ∧ w'.ownsRow w.heap.size 25 2 (.slice B (byT n view rs from_).1.vs.length d) (byT n view rs from_).1.vs.length (vcells (byT n view rs from_).1.vs) ∧ Below w.heap.size w w' := by
  subst e0
  have kz := Blk.new w 28 #[.int .i64 0, .int .i64 0, .int .i64 0, .slice none 0 0]
  have hB0 : Below w.heap.size w (w.alloc (.cells #[.int .i64 0, .int .i64 0, .int .i64 0, .slice none 0 0] 28)) := up_ (Below.refl _ _) _
  have hr0 := hr.on hB0
  have HB0 := Lib.hid hB0
  have HKZ := Lib.hid kz
  rcases hq : repsOkB n view (rl ps) with _ | _
  · have hz1 : byT n view (rl ps) from_ = (zR, false) := by rw [byT, hq]; rfl
    rw [hz1]
    have HO := Lib.hid (reportsOf_no n view A c ps hq _ hr0 hf)
    clear hz1 hq hr hr0 hB0 kz hf
    go_enter Try.func25, Try.ntmps25
    go_wp2_with fail
    refine HO.out.mono ?_
    rintro e w1 ⟨rfl, hb1⟩
    have kz1 := HKZ.out.on hb1
    have rz1 := kz1.rule
    have fz1 := fun i => kz1.frozen i
    have rz8 := ((((kz1.set_ 0 (.int .i64 0)).set_ 1 (.int .i64 0)).set_ 2 (.int .i64 0)).set_ 3 (.slice none 0 0)).rule
    have hB1 := on_ HB0.out hb1
    go_wp2
    refine bodyPost_ret (v := .tuple #[.agg #[.int .i64 0, .int .i64 0, .int .i64 0, .slice none 0 0], .bool false]) (by simp [results, Try.results25, go_sem, rz8]) rfl ⟨none, 0, rfl, World.ownsRow_nil _ _ _ _, ?_⟩
    exact (((hB1.setCell (by simp) _).setCell (by simp) _).setCell (by simp) _).setCell (by simp) _
  · have HO := Lib.hid (reportsOf_yes n view A c ps hq _ hr0 hf)
    have HG := Lib.hid (fun b => get_facts b n view from_ ps hq)
    clear hq hr hr0 hB0 kz hf
    go_enter Try.func25, Try.ntmps25
    go_wp2_with fail
    refine HO.out.mono ?_
    rintro e w1 ⟨b, rfl, hlt, hs1, hb1⟩
    obtain ⟨P, q, hby, hget⟩ := HG.out b
    have HBY := Lib.hid hby
    have kz1 := HKZ.out.on hb1
    have hB1 := on_ HB0.out hb1
    have HGE := Lib.hid (hget w1 hs1)
    obtain ⟨⟨⟨f, v, x, vs⟩, A2, c2⟩, hP⟩ : ∃ u, P = u := ⟨_, rfl⟩
    subst hP
    clear hget hs1 hby hb1 HKZ HB0 HO HG
    go_wp2_with fail
    refine HGE.out.2.mono ?_
    rintro e w2 ⟨rfl, hb2⟩
    have kz2 := Lib.hid (kz1.on hb2)
    have hB2 := Lib.hid (on_ hB1 hb2)
    have hz2 : w.heap.size < w2.heap.size := kz2.out.lt
    have hrv2 := Lib.hid ((HGE.out.1.1.on hb2).on (up_ (Below.refl w2.heap.size w2) (.cells #[.int .i64 f, .int .i64 v, .int .i64 x, .slice A2 vs.length c2] 28)))
    have hvl : vs.length ≤ 1048576 := HGE.out.1.2
    clear hb2 kz1 hB1 HGE
    go_wp2_with fail
    refine (copied_any f v x A2 c2 vs _ hrv2.out hvl).mono ?_
    rintro e w3 ⟨A3, c3, rfl, hown, hb3⟩
    have kz3 := (kz2.out.alloc (.cells #[.int .i64 f, .int .i64 v, .int .i64 x, .slice A2 vs.length c2] 28)).on hb3
    have rz3 := kz3.rule
    have fz3 := fun i => kz3.frozen i
    have rz8 := ((((kz3.set_ 0 (.int .i64 f)).set_ 1 (.int .i64 v)).set_ 2 (.int .i64 x)).set_ 3 (.slice A3 vs.length c3)).rule
    have hB3 := on_ (up_ hB2.out (.cells #[.int .i64 f, .int .i64 v, .int .i64 x, .slice A2 vs.length c2] 28)) hb3
    have hne : (Value.slice A3 vs.length c3).ownBlock ≠ some w.heap.size := ne_lowN hown (by simp; omega)
    have hown8 := Lib.hid (own_farN (i := 3) (u := .slice A3 vs.length c3) (own_farN (i := 2) (u := .int .i64 x) (own_farN (i := 1) (u := .int .i64 v) (own_farN (i := 0) (u := .int .i64 f) (own_more3 hown (show w.heap.size ≤ _ by simp; omega)) hne) hne) hne) hne)
    clear hown hb3 kz3 hne hrv2
    go_wp2
    refine bodyPost_ret (v := .tuple #[.agg #[.int .i64 f, .int .i64 v, .int .i64 x, .slice A3 vs.length c3], .bool q]) (by simp [results, Try.results25, go_sem, rz8]) rfl ?_
    rw [HBY.out]
    have hB8 : Below w.heap.size w ((((w3.setCell ⟨w.heap.size, 0, none⟩ (.int .i64 f)).setCell ⟨w.heap.size, 1, none⟩ (.int .i64 v)).setCell ⟨w.heap.size, 2, none⟩ (.int .i64 x)).setCell ⟨w.heap.size, 3, none⟩ (.slice A3 vs.length c3)) := (((hB3.setCell (by simp) _).setCell (by simp) _).setCell (by simp) _).setCell (by simp) _
    exact ⟨A3, c3, rfl, hown8.out, hB8⟩
/-- What stands behind add: the set with the report put in, or as it was. -/
theorem add_facts (b : Nat) (n view f v x : Int) (RA : Option Addr) (rc : Nat) (vs : List (Int × Int)) (ps : List Pp) (w : World) (hq : repsOkB n view (rl ps) = true) (hq2 : repB n view ⟨f, v, x, vs⟩ = true) (hbw : w.heap.size ≤ b) (hV : ∀ W, Below w.heap.size w W → Rd W W.heap.size RA vs ∧ VsR W W.heap.size ps) (hf : Few ps) (hvl : vs.length ≤ 1048576) :
    ∃ (s' : Nat → Option Pp) (us : List Pp) (q : Bool), addT n view (rl ps) ⟨f, v, x, vs⟩ = (rl us, q) ∧ lstS s' 7 = us ∧ us.length ≤ 7 ∧ (∀ p ∈ us, p = ⟨⟨f, v, x, vs⟩, RA, rc⟩ ∨ p ∈ ps) ∧ ∀ W, Below w.heap.size w W → SetAt W b n view (sl ps) → Calls Try.prog 44 #[.pointer (some ⟨b, 2, none⟩), .int .i64 f, .agg #[.int .i64 f, .int .i64 v, .int .i64 x, .slice RA vs.length rc]] W fun e w' => e = .returned (.bool q) ∧ SetAt w' b n view s' ∧ Below b W w' := by
  have hall : allR n view (rl ps) = true := by unfold repsOkB at hq; simp only [Bool.and_eq_true] at hq; exact hq.1
  have hn7 : n ≤ 7 := by rcases size_two (reps_size hq).1 with rfl | rfl <;> omega
  have hin : 0 ≤ f ∧ f < n := by
    simp only [repB, inB, Bool.and_eq_true, decide_eq_true_eq] at hq2
    exact hq2.1
  obtain ⟨j, rfl⟩ : ∃ j : Nat, f = j := ⟨f.toNat, by omega⟩
  have hasc := asc_of hall
  have hb7 : ∀ p ∈ ps, 0 ≤ p.r.f ∧ p.r.f < 7 := fun p hp => by
    obtain ⟨i, hi, rfl⟩ := mem_getD hp
    have := in_at hall i (by rw [rl_len]; exact hi)
    rw [rl_at] at this
    omega
  have hhas := has_sl (f := (j : Int)) rfl ps hasc
  have hadd : addT n view (rl ps) ⟨j, v, x, vs⟩ = (rl (if (sl ps j).isSome then ps else insR ps (placeR ps j) ⟨⟨j, v, x, vs⟩, RA, rc⟩), !(sl ps j).isSome) := by
    rw [← hhas, addT, hq, hq2, hasF_rl, placeR_rl]
    show ((if hasX (rl ps) j (placeX (rl ps) j) then rl ps else insX (rl ps) (placeX (rl ps) j) ⟨j, v, x, vs⟩), _) = _
    congr 1
    split
    · rfl
    · rw [insR_rl]
  rcases hsj : sl ps j with _ | p0
  · rw [hsj] at hadd
    simp only [Option.isSome_none, Bool.false_eq_true, if_false, Bool.not_false] at hadd
    have hsi := sl_ins (r := ⟨⟨j, v, x, vs⟩, RA, rc⟩) (j := j) rfl ps hsj
    have hia := ins_asc (r := ⟨⟨j, v, x, vs⟩, RA, rc⟩) (j := j) rfl ps hasc hsj
    have hlst : lstS (updS (sl ps) j ⟨⟨j, v, x, vs⟩, RA, rc⟩) 7 = insR ps (placeR ps j) ⟨⟨j, v, x, vs⟩, RA, rc⟩ := by
      rw [← hsi]
      exact lst_all hia (fun p hp => by
        rcases insR_mem hp with rfl | hp
        · exact ⟨hin.1, by show (j : Int) < 7; omega⟩
        · exact hb7 p hp)
    refine ⟨_, _, _, hadd, hlst, by rw [← hlst]; exact lstS_le _ 7, fun p hp => insR_mem hp, fun W hW hS => ?_⟩
    obtain ⟨⟨cs, hk, hcs⟩, hv⟩ := hS
    refine (add_new b j n view j v x RA rc vs (sl ps) cs W hk hcs (by omega) hsj).mono ?_
    rintro e w' ⟨rfl, hset, hb⟩
    have hbw' : Below w.heap.size w w' := hW.trans (hb.mono hbw)
    refine ⟨rfl, ⟨hset, fun i p hp => ?_⟩, hb⟩
    unfold updS at hp
    by_cases e : i = j
    · rw [if_pos e] at hp
      injection hp with hp
      subst hp
      exact ⟨(hV w' hbw').1, hvl⟩
    · rw [if_neg e] at hp
      have hm : p ∈ ps := List.mem_of_find?_eq_some hp
      obtain ⟨k, hk2, rfl⟩ := mem_getD hm
      exact ⟨(hV w' hbw').2 _ hm, hf.2 k hk2⟩
  · rw [hsj] at hadd
    simp only [Option.isSome_some, if_true, Bool.not_true] at hadd
    refine ⟨_, _, _, hadd, lst_all hasc hb7, by rw [← lst_all hasc hb7]; exact lstS_le _ 7, fun p hp => .inr hp, fun W hW hS => ?_⟩
    refine (add_old b j n view j v x RA rc vs.length (sl ps) W hS (by omega) (by rw [hsj]; rfl)).mono ?_
    rintro e w' ⟨rfl, hb⟩
    obtain ⟨⟨cs, hk, _⟩, _⟩ := id hS
    exact ⟨rfl, hS.on hb, hb.mono (by have := hk.lt; omega)⟩
/-- The loop that gives each report votes of its own, k rounds on. -/
def CpL (w wr : World) (B : Option Addr) (d : Nat) (us ys : List Pp) (k : Nat) : Prop :=
  rl ys = rl us ∧ wr.ownsRow w.heap.size 28 4 (.slice B ys.length d) ys.length (pcells ys) ∧ (∃ gs, OwnV wr w.heap.size ys k gs) ∧ (∀ i, k ≤ i → ys.getD i zP = us.getD i zP) ∧ Below w.heap.size w wr
set_option maxHeartbeats 1600000 in
theorem CpL.step {w wr w5 : World} {B : Option Addr} {d : Nat} {us ys : List Pp} {k : Nat} (h : CpL w wr B d us ys k) (hk : k < ys.length) {f1 v1 x1 : Int} {vs1 : List (Int × Int)} {A1 A5 : Option Addr} {c1 c5 : Nat} (he : us.getD k zP = ⟨⟨f1, v1, x1, vs1⟩, A1, c1⟩) (hb : Below wr.heap.size wr w5) (hown : w5.ownsRow wr.heap.size 25 2 (.slice A5 vs1.length c5) vs1.length (vcells vs1)) :
    ∃ g, B = some ⟨g, 0, none⟩ ∧ four (fun j => wr.cell? ⟨g, k * 4 + j, none⟩) ⟨⟨f1, v1, x1, vs1⟩, A1, c1⟩ ∧ four (fun j => w5.cell? ⟨g, k * 4 + j, none⟩) ⟨⟨f1, v1, x1, vs1⟩, A1, c1⟩ ∧ (∀ o, w5.frozen? ⟨g, o, none⟩ = false) ∧ CpL w ((((w5.setCell ⟨g, k * 4, none⟩ (.int .i64 f1)).setCell ⟨g, k * 4 + 1, none⟩ (.int .i64 v1)).setCell ⟨g, k * 4 + 2, none⟩ (.int .i64 x1)).setCell ⟨g, k * 4 + 3, none⟩ (.slice A5 vs1.length c5)) B d us (ys.set k ⟨⟨f1, v1, x1, vs1⟩, A5, c5⟩) (k + 1) := by
  obtain ⟨h1, h2, ⟨gs, h3⟩, h4, h5⟩ := h
  obtain ⟨g, e1, e2, e3, e4, _, _⟩ := own_put h2 hk
  obtain ⟨g', e1', e2', e3', e4', e5', e6'⟩ := own_put (own_onB h2 hb) hk
  have hgg : g = g' := by rw [e1] at e1'; injection e1' with e; injection e with e
  subst hgg
  rw [h4 k (Nat.le_refl _), he] at e4 e4'
  have hty := own_type (own_onB h2 hb)
  have hg8 : w5.grownBy ((((w5.setCell ⟨g, k * 4, none⟩ (.int .i64 f1)).setCell ⟨g, k * 4 + 1, none⟩ (.int .i64 v1)).setCell ⟨g, k * 4 + 2, none⟩ (.int .i64 x1)).setCell ⟨g, k * 4 + 3, none⟩ (.slice A5 vs1.length c5)) (some g) := only_setI (only_setI (only_setI (only_setI (World.grownBy.refl w5 (some g)) _ _) _ _) _ _) _ _
  have hkeep5 : ∀ h cs, Blk w5 h 25 cs → Blk ((((w5.setCell ⟨g, k * 4, none⟩ (.int .i64 f1)).setCell ⟨g, k * 4 + 1, none⟩ (.int .i64 v1)).setCell ⟨g, k * 4 + 2, none⟩ (.int .i64 x1)).setCell ⟨g, k * 4 + 3, none⟩ (.slice A5 vs1.length c5)) h 25 cs := fun h cs hh => keepK hh hg8 (fun e => by
    injection e with e
    subst e
    obtain ⟨cur, hc⟩ := hty g (by rw [e1]; rfl)
    exact two_types (show Blk w5 g 28 cur from hc) hh rfl)
  have hkeep : ∀ h cs, Blk wr h 25 cs → Blk ((((w5.setCell ⟨g, k * 4, none⟩ (.int .i64 f1)).setCell ⟨g, k * 4 + 1, none⟩ (.int .i64 v1)).setCell ⟨g, k * 4 + 2, none⟩ (.int .i64 x1)).setCell ⟨g, k * 4 + 3, none⟩ (.slice A5 vs1.length c5)) h 25 cs := fun h cs hh => hkeep5 h cs (hh.on hb)
  refine ⟨g, e1, e4, e4', e5', ?_, ?_, ?_, fun i hi => ?_, ?_⟩
  · rw [← h1]
    have hr : (ys.getD k zP).r = ⟨f1, v1, x1, vs1⟩ := by rw [h4 k (Nat.le_refl _), he]
    unfold rl
    rw [List.map_set, ← hr]
    exact set_same _ _ _ (by
      rw [List.getElem?_map, List.getElem?_eq_getElem hk, List.getD_eq_getElem?_getD, List.getElem?_eq_getElem hk]; rfl)
  · rw [List.length_set]
    exact e6' ⟨⟨f1, v1, x1, vs1⟩, A5, c5⟩
  · have hov := own_votes hown
    refine h3.step hkeep hk ⟨⟨f1, v1, x1, vs1⟩, A5, c5⟩ h5.size (Nat.le_refl _) ?_
    rcases hov with h | ⟨g2, cs, a1, a2, a3, a4, a5⟩
    · exact .inl h
    · exact .inr ⟨g2, cs, a1, a2, hkeep5 _ _ a3, a4, a5⟩
  · rw [getD_set_ne (by omega)]; exact h4 i (by omega)
  · exact ((((h5.trans (hb.mono h5.size)).setCell e2 _).setCell e2 _).setCell e2 _).setCell e2 _
set_option maxHeartbeats 3200000 in
theorem implAdd_any (n view : Int) (A : Option Addr) (c : Nat) (ps : List Pp) (rs : List Rp) (e0 : rl ps = rs) (f v x : Int) (RA : Option Addr) (rc : Nat) (vs : List (Int × Int)) (w : World) (hr : RdR w w.heap.size A ps) (hf : Few ps) (hrv : Rd w w.heap.size RA vs) (hvl : vs.length ≤ 1048576) :
    Calls Try.prog 9 #[.int .i64 n, .int .i64 view, .slice A ps.length c, .agg #[.int .i64 f, .int .i64 v, .int .i64 x, .slice RA vs.length rc]] w fun e w' => ∃ B d ys gs, e = .returned (.tuple #[.slice B ys.length d, .bool (addT n view rs ⟨f, v, x, vs⟩).2]) ∧ OwnG (addT n view rs ⟨f, v, x, vs⟩).1 w w' B d ys gs ∧ ys.length ≤ 7 ∧ Below w.heap.size w w' := by
  subst e0
  have kb := Blk.new w 28 #[.int .i64 f, .int .i64 v, .int .i64 x, .slice RA vs.length rc]
  have hB0 : Below w.heap.size w (w.alloc (.cells #[.int .i64 f, .int .i64 v, .int .i64 x, .slice RA vs.length rc] 28)) := up_ (Below.refl _ _) _
  have hr0 := hr.on hB0
  have hv0 := (hrv.below hB0).more (Bd' := (w.alloc (.cells #[.int .i64 f, .int .i64 v, .int .i64 x, .slice RA vs.length rc] 28)).heap.size) hB0.size
  have HB0 := Lib.hid hB0
  have HKB := Lib.hid kb
  have HV0 := Lib.hid hv0
  have HNO : Hid (∀ W, Below w.heap.size w W → addT n view (rl ps) ⟨f, v, x, vs⟩ = ([], false) → ∃ B d ys gs, Ending.returned (.tuple #[.slice none 0 0, .bool false]) = .returned (.tuple #[.slice B ys.length d, .bool (addT n view (rl ps) ⟨f, v, x, vs⟩).2]) ∧ OwnG (addT n view (rl ps) ⟨f, v, x, vs⟩).1 w W B d ys gs ∧ ys.length ≤ 7 ∧ Below w.heap.size w W) := fun W hW e => ⟨none, 0, [], fun _ => 0, by rw [e]; rfl, ⟨by rw [e]; rfl, World.ownsRow_nil _ _ _ _, fun i hi => absurd hi (by simp), fun i i' _ hi' => absurd hi' (by simp)⟩, by simp, hW⟩
  obtain ⟨q2, hq2⟩ : ∃ q, repB n view ⟨f, v, x, vs⟩ = q := ⟨_, rfl⟩
  have HQ2 := Lib.hid (fun (W : World) h => reportOk_is q2 n view f v x RA rc vs hq2 W h hvl)
  rcases hq : repsOkB n view (rl ps) with _ | _
  · have hz1 := Lib.hid (show addT n view (rl ps) ⟨f, v, x, vs⟩ = ([], false) by rw [addT, hq]; rfl)
    have HO := Lib.hid (reportsOf_no n view A c ps hq _ hr0 hf)
    clear hq hr hr0 hB0 kb hf hv0 hrv hq2
    go_enter Try.func9, Try.ntmps9
    go_wp2_with fail
    refine HO.out.mono ?_
    rintro e w1 ⟨rfl, hb1⟩
    have hB1 := on_ HB0.out hb1
    go_wp2
    refine bodyPost_ret (v := .tuple #[.slice none 0 0, .bool false]) (by simp [results, Try.results9, go_sem]) rfl ?_
    exact HNO.out _ hB1 hz1.out
  · have HO := Lib.hid (reportsOf_yes n view A c ps hq _ hr0 hf)
    have hV : ∀ W, Below w.heap.size w W → Rd W W.heap.size RA vs ∧ VsR W W.heap.size ps := fun W hW => ⟨(hrv.below hW).more hW.size, hr.vs.on hW⟩
    rcases q2 with _ | _
    · have hz1 := Lib.hid (show addT n view (rl ps) ⟨f, v, x, vs⟩ = ([], false) by rw [addT, hq, hq2]; rfl)
      clear hq hr hr0 hB0 kb hf hv0 hrv hq2 hV
      go_enter Try.func9, Try.ntmps9
      go_wp2_with fail
      refine HO.out.mono ?_
      rintro e w1 ⟨b, rfl, hlt, hs1, hb1⟩
      have kb1 := (HKB.out.on hb1).rule
      have hv1 := HV0.out.on hb1
      have hB1 := on_ HB0.out hb1
      clear hs1
      go_wp2_with fail
      refine (HQ2.out w1 hv1).mono ?_
      rintro e w2 ⟨rfl, hb2⟩
      have hB2 := on_ hB1 hb2
      go_wp2
      refine bodyPost_ret (v := .tuple #[.slice none 0 0, .bool false]) (by simp [results, Try.results9, go_sem]) rfl ?_
      exact HNO.out _ hB2 hz1.out
    · have HADD := Lib.hid (fun b (h : w.heap.size ≤ b) => add_facts b n view f v x RA rc vs ps w hq hq2 h hV hf hvl)
      have HSM := Lib.hid hf.2
      have HV := Lib.hid hV
      clear hq hr hr0 hB0 kb hf hv0 hrv hq2 hV HNO
      go_enter Try.func9, Try.ntmps9
      go_wp2_with fail
      refine HO.out.mono ?_
      rintro e w1 ⟨b, rfl, hlt, hs1, hb1⟩
      have hbw : w.heap.size < b := by simp at hlt; omega
      have kb1 := HKB.out.on hb1
      have rb1 := kb1.rule
      have hv1 := HV0.out.on hb1
      have hB1 := on_ HB0.out hb1
      obtain ⟨s', us, q, hadd, hls, hu7, hmem, hcall⟩ := HADD.out b (by omega)
      have HAT := Lib.hid hadd
      have HS1 := Lib.hid hs1
      have HCALL := Lib.hid hcall
      have HMEM := Lib.hid hmem
      have HLS := Lib.hid hls
      clear hb1 HO HADD HKB HV0 hs1 hadd hcall hmem hls
      go_wp2_with fail
      refine (HQ2.out w1 hv1).mono ?_
      rintro e w2 ⟨rfl, hb2⟩
      have kb2 := kb1.on hb2
      have rb2 := kb2.rule
      have hs2 : SetAt w2.drew b n view (sl ps) := (HS1.out.on hb2).on (Below.refl _ _).drew
      have hB2 : Below w.heap.size w w2.drew := (on_ hB1 hb2).drew
      have hcl := Lib.hid (HCALL.out w2.drew hB2 hs2)
      have HB2 := Lib.hid hB2
      clear hb2 kb1 rb1 hv1 hB1 HS1 HQ2 hs2 hB2
      go_wp2_with fail
      go_region_law (first
        | (go_simp; go_at_call 44; go_loud (with_reducible refine hcl.out.mono ?_; rintro e w3 ⟨rfl, hs3, hb3⟩; have hs3 := Lib.hid hs3; have hB3 := Lib.hid (HB2.out.trans (hb3.mono (Nat.le_of_lt hbw))); clear hb3)))
      all_goals
        clear rb2 kb2
        go_wp2_with fail
        refine (list_any b n view s' _ hs3.out).mono ?_
        rintro e w4 ⟨v4, rfl, hown4, hb4⟩
        rw [HLS.out] at hown4
        have hB4 := on_ hB3.out hb4
        have hz3 := hB3.out.size
        obtain ⟨B, d, rfl, hcap⟩ := formA hown4
        have HC0 : Hid (CpL w w4 B d us us 0) := ⟨rfl, own_more3 hown4 hz3, ⟨fun _ => 0, fun i hi => absurd hi (by omega), fun i i' _ hi' => absurd hi' (by omega)⟩, fun i _ => rfl, hB4⟩
        clear hown4 hb4 hB4 hB3 hs3 hz3
        obtain ⟨L, hL⟩ : ∃ L, us.length = L := ⟨_, rfl⟩
        have HL := Lib.hid hL
        rw [hL] at hu7 ⊢
        clear hL
        go_wp2
        go_loopw [14, 44] (fun _ i wr => ∃ (k : Nat) (ys : List Pp), k ≤ L ∧ i = .int .i64 k ∧ Hid (ys.length = L) ∧ Hid (CpL w wr B d us ys k)) (fun _ i _ => L - (intOf i).toNat)
        case atStart => exact ⟨0, us, Nat.zero_le _, rfl, HL.out, HC0.out⟩
        case round =>
          clear HC0
          obtain ⟨k, ys, hk, rfl, hyl, hcp⟩ := hrel
          by_cases hltk : k < L
          · obtain ⟨⟨⟨f1, v1, x1, vs1⟩, A1, c1⟩, hu⟩ : ∃ u, us.getD k zP = u := ⟨_, rfl⟩
            have hbr := hcp.out.2.2.2.2
            have hrd1 : Rd wr wr.heap.size A1 vs1 ∧ vs1.length ≤ 1048576 := by
              have hm := getD_mem (ps := us) (i := k) (by rw [HL.out]; exact hltk)
              rw [hu] at hm
              rcases HMEM.out _ hm with e | e
              · injection e with e1 e2 e3
                injection e1 with _ _ _ e4
                subst e2 e4
                exact ⟨(HV.out wr hbr).1, hvl⟩
              · obtain ⟨i, hi, e2⟩ := mem_getD e
                have := HSM.out i hi
                rw [e2] at this
                exact ⟨(HV.out wr hbr).2 _ e, this⟩
            have HSTEP := Lib.hid (fun (w5 : World) (A5 : Option Addr) (c5 : Nat) (hb : Below wr.heap.size wr w5) hown => CpL.step (A5 := A5) (c5 := c5) hcp.out (by rw [hyl.out]; exact hltk) hu hb hown)
            obtain ⟨g, hBg, -, -, c40, -⟩ := own_put hcp.out.2.1 (i := k) (by rw [hyl.out]; exact hltk)
            rw [hcp.out.2.2.2.1 k (Nat.le_refl _), hu] at c40
            obtain ⟨i0, i1, i2, i3⟩ := c40
            simp only [Nat.add_zero] at i0 i1 i2 i3
            subst hBg
            have hvl1 := hrd1.2
            have hrd1 := Lib.hid hrd1.1
            clear hu hcp hbr
            go_wp2_with fail
            refine (copied_any f1 v1 x1 A1 c1 vs1 wr hrd1.out hvl1).mono ?_
            rintro e w5 ⟨A5, c5, rfl, hown5, hb5⟩
            obtain ⟨g', e', -, c5', hfr5, hcp5⟩ := HSTEP.out w5 A5 c5 hb5 hown5
            injection e' with e'
            injection e' with e'
            subst e'
            obtain ⟨j0, j1, j2, j3⟩ := c5'
            simp only [Nat.add_zero] at j0 j1 j2 j3
            have fr0 := hfr5 (k * 4)
            have fr1 := hfr5 (k * 4 + 1)
            have fr2 := hfr5 (k * 4 + 2)
            have fr3 := hfr5 (k * 4 + 3)
            have HC5 := Lib.hid hcp5
            clear HSTEP hown5 hb5 hfr5 hcp5 i0 i1 i2 i3
            go_wp2
            go_roundw
            case rel => exact ⟨k + 1, _, by omega, by go_num, by show _ = _; rw [List.length_set]; exact hyl.out, HC5⟩
            case measure => simp [intOf]; omega
          · obtain rfl : k = L := by omega
            have hf : decide ((k : Int) < (k : Int)) = false := by simp
            have hyl' := hyl.out
            go_wp2
            refine bodyPost_ret (v := .tuple #[.slice B k d, .bool q]) (by simp [results, Try.results9, go_sem]) rfl ?_
            rw [HAT.out]
            obtain ⟨h1, h2, ⟨gs, h3⟩, h4, h5⟩ := hcp.out
            exact ⟨B, d, ys, gs, by rw [hyl'], ⟨h1, h2, by rw [hyl']; exact h3⟩, by omega, h5⟩
end Go.Proofs.Ytcfjmhebhhekbaa.V
