/-
  joinView of the program: a contract. No statement is proved here.
-/
import Derived.Test.YtfdfjmibjnmhpaaK17
import Derived.Test.YtfdfjmibjnmhpaaK11
import Derived.Maps.OwnIn
import Derived.Maps.Views
set_option linter.unusedVariables false
set_option maxRecDepth 100000
namespace Go.Proofs.Ytfdfjmibjnmhpaa.V
open Go.RowKit Go.Shelf Go.Proofs.Ytfdfjmibjnmhpaa.B
attribute [local go_sem] Oper.semAt_some
noncomputable abbrev plB9 : Value → Option (DataW Unit × List MemPlace) := plainElem (H := Unit) Try.prog 4
theorem lawI9 : Maps.Keyed Try.prog 3 := Maps.int_keyed Try.underlying3
def litI9 (x : Int) : Lit := .int .i64 x
theorem key9 {x : Int} (hx : (Lit.int .i64 x).wf = true) : WideAt.IsKeyLit (litI9 x) := lawI9.key (Maps.keyOf_int_mk Try.underlying3 hx)
def uT9 : DataW Unit := .lit (.bool true)
/-- The set of xs, as a map of the program reads. -/
def setD (xs : List Int) : DataW Unit := Maps.setOf uT9 (xs.map litI9)
theorem setD_nil : setD [] = .map [] := rfl
theorem setD_snoc (xs : List Int) (x : Int) : (setD xs).put (litI9 x) uT9 = setD (xs ++ [x]) := by
  unfold setD Maps.setOf
  rw [List.map_append, List.foldl_append]
  rfl
theorem addKey9 (hs : ∀ a b : Int, (litI9 a).sameKey (litI9 b) = decide (a = b)) : ∀ (xs acc : List Int), (xs.map litI9).foldl Maps.addKey (acc.map litI9) = (xs.foldl ins9 acc).map litI9
  | [], acc => rfl
  | x :: xs, acc => by
    rw [List.map_cons, List.foldl_cons, List.foldl_cons]
    have e : Maps.addKey (acc.map litI9) (litI9 x) = (ins9 acc x).map litI9 := by
      unfold Maps.addKey ins9
      have e2 : (acc.map litI9).any (fun y => y.sameKey (litI9 x)) = decide (x ∈ acc) := by
        rw [List.any_map]
        have : ∀ l : List Int, l.any ((fun y => y.sameKey (litI9 x)) ∘ litI9) = decide (x ∈ l) := fun l => by
          induction l with
          | nil => simp
          | cons a l ih =>
            rw [List.any_cons, ih]
            simp only [Function.comp, hs, List.mem_cons]
            by_cases h1 : a = x
            · subst h1; simp
            · have h2 : ¬ x = a := fun e => h1 e.symm
              simp [h1, h2]
        exact this acc
      rw [e2]
      by_cases h : x ∈ acc
      · simp [h]
      · simp [h]
    rw [e]
    exact addKey9 hs xs _
theorem same9 (a b : Int) : (litI9 a).sameKey (litI9 b) = decide (a = b) := by
  by_cases h : a = b
  · subst h
    rw [decide_eq_true rfl]
    simp [litI9, Lit.sameKey]
  · rw [decide_eq_false h]
    exact Maps.sameKey_ne fun e => h (by simpa [litI9] using e)
theorem size_setD {xs : List Int} (h : ∀ x ∈ xs, (Lit.int .i64 x).wf = true) : Maps.size (setD xs) = nd xs := by
  unfold setD
  rw [Maps.size_setOf uT9 _ (fun k hk => by
    obtain ⟨x, hx, rfl⟩ := List.mem_map.1 hk
    exact key9 (h x hx))]
  have := addKey9 same9 xs []
  rw [List.map_nil] at this
  rw [this, List.length_map]
  rfl
def frL (hs : List Hp) (pre : List (HIx hs)) : List Int := pre.flatMap fun x => frH ((hl hs).getD x.1 (0, []))
theorem frL_snoc (hs : List Hp) (pre : List (HIx hs)) (x : HIx hs) : frL hs (pre ++ [x]) = frL hs pre ++ frH ((hl hs).getD x.1 (0, [])) := by simp [frL]
def P1 (hs : List Hp) (view wk : Int) (pre : List (HIx hs)) : Prop := (∀ x ∈ pre, view < (hs.getD x.1 zH).v) ∧ ∀ p q, pre = p ++ q → p ≠ [] → (nd (frL hs p) : Int) < wk
theorem P1.nil_ (hs : List Hp) (view wk : Int) : P1 hs view wk [] := ⟨fun x h => absurd h (by simp), fun p q h hp => absurd (List.append_eq_nil_iff.1 h.symm).1 hp⟩
theorem P1.snoc {hs : List Hp} {view wk : Int} {pre : List (HIx hs)} {x : HIx hs} (h : P1 hs view wk pre) (h1 : view < (hs.getD x.1 zH).v) (h2 : (nd (frL hs (pre ++ [x])) : Int) < wk) : P1 hs view wk (pre ++ [x]) :=
  ⟨fun y hy => by
    rcases List.mem_append.1 hy with hy | hy
    · exact h.1 y hy
    · rw [List.mem_singleton] at hy; rw [hy]; exact h1, fun p q e hp => by
    rcases List.eq_nil_or_concat q with rfl | ⟨q', z, rfl⟩
    · rw [List.append_nil] at e; rw [← e]; exact h2
    · rw [List.concat_eq_append, ← List.append_assoc] at e
      exact h.2 p q' (List.append_inj_left' e (by simp)) hp⟩
theorem mem_dn (hs : List Hp) : ∀ k, k ≤ hs.length → ∀ x, x ∈ frL hs (dnH hs k) ↔ ∃ j, hs.length - k ≤ j ∧ j < hs.length ∧ x ∈ frH ((hl hs).getD j (0, []))
  | 0, _, x => ⟨fun h => absurd h (by simp [dnH, frL]), fun ⟨j, h1, h2, _⟩ => by omega⟩
  | k + 1, hk, x => by
    rw [dnH_succ hs k (hs.length - 1 - k) (by omega) (by omega), frL_snoc, List.mem_append, mem_dn hs k (by omega)]
    constructor
    · rintro (⟨j, h1, h2, h3⟩ | h)
      · exact ⟨j, by omega, h2, h3⟩
      · exact ⟨hs.length - 1 - k, by omega, by omega, h⟩
    · rintro ⟨j, h1, h2, h3⟩
      by_cases e : j = hs.length - 1 - k
      · exact .inr (e ▸ h3)
      · exact .inl ⟨j, by omega, h2, h3⟩
theorem dn_prefix (hs : List Hp) (k : Nat) : ∀ d, k + d ≤ hs.length → ∃ q, dnH hs (k + d) = dnH hs k ++ q
  | 0, _ => ⟨[], by simp⟩
  | d + 1, h => by
    obtain ⟨q, e⟩ := dn_prefix hs k d (by omega)
    refine ⟨q ++ [⟨hs.length - 1 - (k + d), by omega⟩], ?_⟩
    rw [show k + (d + 1) = k + d + 1 from rfl, dnH_succ hs (k + d) (hs.length - 1 - (k + d)) (by omega) (by omega), e, List.append_assoc]
theorem nd_dn {hs : List Hp} (ha : Asc (hl hs)) (j : Nat) (hj : j < hs.length) : nd (frL hs (dnH hs (hs.length - j))) = nd (frS (hl hs) ((hl hs).getD j (0, [])).1) := nd_ext fun x => by
  rw [mem_dn hs _ (by omega), mem_frS]
  have hlen := hl_len hs
  constructor
  · rintro ⟨i, h1, h2, h3⟩
    have hi : i < (hl hs).length := by omega
    have e : (hl hs).getD i (0, []) = (hl hs)[i] := by rw [List.getD_eq_getElem?_getD, List.getElem?_eq_getElem hi]; rfl
    refine ⟨(hl hs)[i], List.getElem_mem hi, ?_, e ▸ h3⟩
    rw [← e]
    by_cases e2 : i = j
    · rw [e2]; exact Int.le_refl _
    · have := ha j i (by omega) hi; omega
  · rintro ⟨h, hh, h6, h7⟩
    obtain ⟨i, hi, rfl⟩ := List.getElem_of_mem hh
    have e : (hl hs).getD i (0, []) = (hl hs)[i] := by rw [List.getD_eq_getElem?_getD, List.getElem?_eq_getElem hi]; rfl
    refine ⟨i, ?_, by omega, e ▸ h7⟩
    apply Classical.byContradiction
    intro hlt
    have := ha i j (by omega) (by omega)
    rw [e] at this
    omega
theorem P1.below {hs : List Hp} {view wk : Int} {k : Nat} (h : P1 hs view wk (dnH hs k)) (hk : k ≤ hs.length) (ha : Asc (hl hs)) : ∀ j, hs.length - k ≤ j → j < (hl hs).length → (nd (frS (hl hs) ((hl hs).getD j (0, [])).1) : Int) < wk := fun j h1 h2 => by
  have hlen := hl_len hs
  rw [← nd_dn ha j (by omega)]
  obtain ⟨q, e⟩ := dn_prefix hs (hs.length - j) (k - (hs.length - j)) (by omega)
  rw [show hs.length - j + (k - (hs.length - j)) = k by omega] at e
  refine h.2 _ q e fun h0 => ?_
  have := dnH_length hs (hs.length - j) (by omega)
  rw [h0] at this
  simp at this
  omega
theorem hl_v (hs : List Hp) (j : Nat) : ((hl hs).getD j (0, [])).1 = (hs.getD j zH).v := by rw [hl_at]; rfl
theorem join_stop {d : Rd4} {hs : List Hp} {k : Nat} (hd : d.hs = hl hs) (ha : Asc (hl hs)) (hw : 0 < weakR d.n) (h : P1 hs d.view (weakR d.n) (dnH hs k)) (hk : k ≤ hs.length) (hv : ∀ j, j < hs.length - k → (hs.getD j zH).v ≤ d.view) : JoinIs d d.view :=
  ⟨.inl rfl, fun u h1 h2 => by
    rw [hd]
    exact join_above ha hw (m := hs.length - k) (h.below hk ha) fun j hj hj2 => by
      have := hv j hj
      rw [hl_v]; omega⟩
theorem join_ret {d : Rd4} {hs : List Hp} {k j : Nat} (hd : d.hs = hl hs) (ha : Asc (hl hs)) (hw : 0 < weakR d.n) (h : P1 hs d.view (weakR d.n) (dnH hs k)) (hjk : j + k + 1 = hs.length) (hv : d.view < (hs.getD j zH).v) (h9 : (hs.getD j zH).v ≤ 9)
    (hn : weakR d.n ≤ (nd (frL hs (dnH hs (k + 1))) : Int)) : JoinIs d (hs.getD j zH).v :=
  ⟨.inr ⟨hv, h9, by
    rw [hd, ← hl_v hs j, ← nd_dn ha j (by omega), show hs.length - j = k + 1 by omega]
    exact hn⟩, fun u h1 h2 => by
    rw [hd]
    exact join_above ha hw (m := j + 1) (fun i h3 h4 => h.below (by omega) ha i (by omega) h4) fun i h3 h4 => by
      have hlen := hl_len hs
      rw [hl_v]
      by_cases e : i = j
      · rw [e]; exact h1
      · have := ha i j (by omega) (by omega)
        rw [hl_v, hl_v] at this
        omega⟩
/-- Between two rounds. -/
def JI (w : World) (RC : Array Value) (hs : List Hp) (view wk : Int) (pre : List (HIx hs)) (W : World) : Prop :=
  Blk W w.heap.size 40 RC ∧ Blk W (w.heap.size + 1) 3 #[.int .i64 0] ∧ Blk W (w.heap.size + 1 + 1 + 1) 127 #[.map (some (w.heap.size + 1 + 1))] ∧ W.ownsMap Try.prog 3 plB9 (w.heap.size + 1 + 1) (frL hs pre).length (setD (frL hs pre)) ∧ Below w.heap.size w W ∧ P1 hs view wk pre ∧ w.heap.size + 1 + 1 + 1 + 1 + 1 ≤ W.heap.size
def JX (w : World) (RC : Array Value) (hs : List Hp) (view wk : Int) (c : Code) (pre : List (HIx hs)) (W : World) : Prop :=
  (c = .exit 0 ∧ Blk W w.heap.size 40 RC ∧ Blk W (w.heap.size + 1) 3 #[.int .i64 0] ∧ Below w.heap.size w W ∧ ∃ p x, pre = p ++ [x] ∧ P1 hs view wk p ∧ (hs.getD x.1 zH).v ≤ view) ∨
  (c = .ret ∧ Below w.heap.size w W ∧ ∃ p x, pre = p ++ [x] ∧ Blk W (w.heap.size + 1) 3 #[.int .i64 (hs.getD x.1 zH).v] ∧ P1 hs view wk p ∧ view < (hs.getD x.1 zH).v ∧ wk ≤ (nd (frL hs pre) : Int))
theorem blk_own {X Y : World} {g : Nat} {t : TypeId} {cs : Array Value} {row : Option Nat} (h : Blk X g t cs) (hg : X.grownBy Y row) (hr : ∀ r, row = some r → ∃ o : Obj, X.heap[r]? = some o ∧ o.isCells = false) : Blk Y g t cs :=
  (hg.block g h.lt fun e => by
    obtain ⟨o, h1, h2⟩ := hr g e.symm
    have h3 : X.heap[g]? = some (.cells cs t (0, 0)) := h
    rw [h3] at h1; injection h1 with h1; rw [← h1] at h2; cases h2).trans h
theorem JI.own (w : World) (RC : Array Value) (hs : List Hp) (view wk : Int) {B : Nat} (hB : w.heap.size + 3 ≤ B) : OwnFrom B (JI w RC hs view wk) := fun pre X Y row ⟨h1, h2, h3, h4, h5, h6, h7⟩ hg hr =>
  ⟨blk_own h1 hg fun r e => (hr r e).2, blk_own h2 hg fun r e => (hr r e).2, blk_own h3 hg fun r e => (hr r e).2, h4.kept hg fun e => by have := (hr _ e.symm).1; omega, h5.grown hg h5.size fun j e => by have := (hr j e).1; omega, h6, Nat.le_trans h7 hg.size⟩
theorem JX.own (w : World) (RC : Array Value) (hs : List Hp) (view wk : Int) {B : Nat} (hB : w.heap.size + 3 ≤ B) (c : Code) : OwnFrom B (JX w RC hs view wk c) := fun pre X Y row h hg hr => by
  rcases h with ⟨e, h1, h2, h3, h4⟩ | ⟨e, h1, p, x, h2, h3, h4⟩
  · exact .inl ⟨e, blk_own h1 hg fun r e => (hr r e).2, blk_own h2 hg fun r e => (hr r e).2, h3.grown hg h3.size fun j e => by have := (hr j e).1; omega, h4⟩
  · exact .inr ⟨e, h1.grown hg h1.size fun j e => by have := (hr j e).1; omega, p, x, h2, blk_own h3 hg fun r e => (hr r e).2, h4⟩
theorem frL_len (hs : List Hp) (hf : FewH hs) : ∀ pre : List (HIx hs), (frL hs pre).length ≤ pre.length * 1048576
  | [] => by simp [frL]
  | x :: pre => by
    have ih := frL_len hs hf pre
    have e : frL hs (x :: pre) = frH ((hl hs).getD x.1 (0, [])) ++ frL hs pre := by simp [frL]
    have h1 : (frH ((hl hs).getD x.1 (0, []))).length ≤ 1048576 := by
      rw [hl_at]
      simp only [frH, hd1, List.length_map, rl_len]
      exact (hf.2 x.1 x.2).1
    rw [e, List.length_append, List.length_cons]
    omega
theorem blk_gr {w w' : World} {g b : Nat} {t : TypeId} {cs : Array Value} (h : Blk w g t cs) (hg : w.grownBy w' (some b)) (hne : g ≠ b) : Blk w' g t cs := (hg.block g h.lt (fun e => hne (by injection e))).trans h
theorem size_of {d : Rd4} (h : repQ d = true) : sizeB d.n = true := by
  unfold repQ headQ at h
  simp only [Bool.and_eq_true] at h
  exact h.1.1
theorem heard_of {d : Rd4} (h : repQ d = true) : heardB d.n d.hs = true := by
  unfold repQ at h
  simp only [Bool.and_eq_true] at h
  exact h.2.2.2.2.2
theorem weak_pos {n : Int} (h : sizeB n = true) : 0 < weakR n := by
  unfold weakR
  rw [if_pos h]
  simp only [sizeB, Bool.or_eq_true, decide_eq_true_eq] at h
  rcases h with rfl | rfl <;> decide
theorem view9_of {d : Rd4} (h : repQ d = true) : ∀ j, j < d.hs.length → (d.hs.getD j (0, [])).1 ≤ 9 := fun j hj => by
  have h1 := heard_of h
  unfold heardB at h1
  rw [List.all_eq_true] at h1
  have h2 := h1 j (List.mem_range.2 hj)
  unfold goodH repsOkB viewR at h2
  simp only [Bool.and_eq_true, decide_eq_true_eq] at h2
  exact h2.1.2.2.2
set_option maxHeartbeats 8000000 in
theorem joinView_any (q : Rq) (hg : repQ q.dat = true) (hwf : ∀ h ∈ q.hs, ∀ p ∈ h.ps, (Lit.int .i64 p.r.f).wf = true) (w : World) (hr : RdQ w w.heap.size q) (hf : FewQ q) :
    Calls Try.prog 43 #[q.agg] w fun e w' => e = .returned (.int .i64 (joinQ q.dat)) ∧ Below w.heap.size w w' := by
  have hjq := fun v => @joinQ_eq q.dat v
  have hsz := size_of hg
  have hasc : Asc (hl q.hs) := asc_of (n := q.n) (heard_of hg)
  have hv9 := view9_of hg
  have hst := fun k => @join_stop q.dat q.hs k rfl hasc (weak_pos hsz)
  have hrt := fun k j => @join_ret q.dat q.hs k j rfl hasc (weak_pos hsz)
  obtain ⟨z, hz⟩ : ∃ z, joinQ q.dat = z := ⟨_, rfl⟩
  rw [hz] at hjq ⊢
  clear hz
  have HST := Lib.hid (fun k h1 h2 h3 => hjq _ (hst k h1 h2 h3))
  have HRT := Lib.hid (fun k j h1 h2 h3 h4 h5 => hjq _ (hrt k j h1 h2 h3 h4 h5))
  have HASC := Lib.hid hasc
  clear hjq hst hrt hasc hg
  have RH := Lib.hid hr.h
  have HFH := Lib.hid hf.h
  obtain ⟨n, id, own, view, left, voted, lv, lx, dn, pr, vo, re, ds, hs, Av, Ap, Ao, Ar, Ad, Ah, cv, cp, co, cr, cd, ch⟩ := q
  simp only [Rq.agg, Rq.cells, Rq.dat] at *
  have hWK := fun W => implWeak_any n W
  obtain ⟨wk, hwk⟩ : ∃ k, weakR n = k := ⟨_, rfl⟩
  rw [hwk] at HST HRT hWK
  have HWK := Lib.hid hWK; clear hWK hwk hsz
  obtain ⟨lv0, elv0⟩ : ∃ m, voted.length = m := ⟨_, rfl⟩
  obtain ⟨lp0, elp0⟩ : ∃ m, pr.length = m := ⟨_, rfl⟩
  obtain ⟨lo0, elo0⟩ : ∃ m, vo.length = m := ⟨_, rfl⟩
  obtain ⟨lr0, elr0⟩ : ∃ m, re.length = m := ⟨_, rfl⟩
  obtain ⟨ld0, eld0⟩ : ∃ m, ds.length = m := ⟨_, rfl⟩
  obtain ⟨lh0, elh0⟩ : ∃ m, hs.length = m := ⟨_, rfl⟩
  simp only [elv0, elp0, elo0, elr0, eld0, elh0]
  have ELH := Lib.hid elh0
  have hlh : lh0 ≤ 1048576 := by rw [← elh0]; exact hf.h.1
  have HV9 := Lib.hid hv9; have HWF := Lib.hid hwf
  have hwp0 : ∀ pre : List (HIx hs), ∀ y ∈ frL hs pre, (Lit.int .i64 y).wf = true := fun pre y hy => by
    obtain ⟨x, _, hx⟩ := List.mem_flatMap.1 hy
    rw [hl_at] at hx
    simp only [frH, hd1, rl, List.map_map, List.mem_map] at hx
    obtain ⟨p9, hp9, rfl⟩ := hx
    exact hwf _ (by rw [List.getD_eq_getElem?_getD, List.getElem?_eq_getElem x.2]; exact List.getElem_mem x.2) p9 hp9
  have HWP := Lib.hid hwp0; clear hwp0
  clear elv0 elp0 elo0 elr0 eld0 elh0 hr hf hv9 hwf
  have ka := (((Blk.new w 40 #[.int .i64 n, .int .i64 id, .int .i64 own, .int .i64 view, .int .i64 left, .slice Av lv0 cv, .int .i64 lv, .int .i64 lx, .int .i64 dn, .slice Ap lp0 cp, .slice Ao lo0 co, .slice Ar lr0 cr, .slice Ad ld0 cd, .slice Ah lh0 ch]).alloc (.cells #[.int .i64 0] 3)).alloc (.map #[] 0)).alloc (.cells #[.map (some (w.heap.size + 1 + 1))] 127)
  have hmm := @run_makeMap Try.prog
  have ra := ka.rule
  refine (callsIn_wide (n := 6)).1 ?_
  refine callsIn_of_wp_marks Try.func43 rfl trivial ?_ rfl
  simp only [Try.ntmps43, List.size_toArray, List.length_cons, List.length_nil, Nat.reduceAdd, Nat.reduceSub, Array.replicate_succ, Array.replicate_zero, List.push_toArray, List.append_toArray, List.nil_append, List.cons_append]
  gi_wp2_with fail
  refine ⟨trivial, ?_⟩
  refine (backward_in Fence.wide (6 - 1) trivial rfl _ _ _ _).mono ?_
  rintro e w' ⟨rfl, rfl⟩
  gi_wp2_with fail
  have k0 := ((Blk.new (w.alloc (.cells #[.int .i64 n, .int .i64 id, .int .i64 own, .int .i64 view, .int .i64 left, .slice Av lv0 cv, .int .i64 lv, .int .i64 lx, .int .i64 dn, .slice Ap lp0 cp, .slice Ao lo0 co, .slice Ar lr0 cr, .slice Ad ld0 cd, .slice Ah lh0 ch] 40)) 3 #[.int .i64 0]).alloc (.map #[] 0)).alloc (.cells #[.map (some (w.heap.size + 1 + 1))] 127)
  have kM := Blk.new (((w.alloc (.cells #[.int .i64 n, .int .i64 id, .int .i64 own, .int .i64 view, .int .i64 left, .slice Av lv0 cv, .int .i64 lv, .int .i64 lx, .int .i64 dn, .slice Ap lp0 cp, .slice Ao lo0 co, .slice Ar lr0 cr, .slice Ad ld0 cd, .slice Ah lh0 ch] 40)).alloc (.cells #[.int .i64 0] 3)).alloc (.map #[] 0)) 127 #[.map (some (w.heap.size + 1 + 1))]
  have kS := Blk.new ((((w.alloc (.cells #[.int .i64 n, .int .i64 id, .int .i64 own, .int .i64 view, .int .i64 left, .slice Av lv0 cv, .int .i64 lv, .int .i64 lx, .int .i64 dn, .slice Ap lp0 cp, .slice Ao lo0 co, .slice Ar lr0 cr, .slice Ad ld0 cd, .slice Ah lh0 ch] 40)).alloc (.cells #[.int .i64 0] 3)).alloc (.map #[] 0)).alloc (.cells #[.map (some (w.heap.size + 1 + 1))] 127)) 38 #[.slice Ah lh0 ch]
  have hO := ((World.ownsMap_made ((w.alloc (.cells #[.int .i64 n, .int .i64 id, .int .i64 own, .int .i64 view, .int .i64 left, .slice Av lv0 cv, .int .i64 lv, .int .i64 lx, .int .i64 dn, .slice Ap lp0 cp, .slice Ao lo0 co, .slice Ar lr0 cr, .slice Ad ld0 cd, .slice Ah lh0 ch] 40)).alloc (.cells #[.int .i64 0] 3)) Try.prog 3 plB9).alloc (.cells #[.map (some (w.heap.size + 1 + 1))] 127))
  simp only [World.size_alloc] at k0 kM kS hO
  have hB := up_ (up_ (up_ (up_ (up_ (Below.refl w.heap.size w) (.cells #[.int .i64 n, .int .i64 id, .int .i64 own, .int .i64 view, .int .i64 left, .slice Av lv0 cv, .int .i64 lv, .int .i64 lx, .int .i64 dn, .slice Ap lp0 cp, .slice Ao lo0 co, .slice Ar lr0 cr, .slice Ad ld0 cd, .slice Ah lh0 ch] 40)) (.cells #[.int .i64 0] 3)) (.map #[] 0)) (.cells #[.map (some (w.heap.size + 1 + 1))] 127)) (.cells #[.slice Ah lh0 ch] 38)
  have hz4 : ((((w.alloc (.cells #[.int .i64 n, .int .i64 id, .int .i64 own, .int .i64 view, .int .i64 left, .slice Av lv0 cv, .int .i64 lv, .int .i64 lx, .int .i64 dn, .slice Ap lp0 cp, .slice Ao lo0 co, .slice Ar lr0 cr, .slice Ad ld0 cd, .slice Ah lh0 ch] 40)).alloc (.cells #[.int .i64 0] 3)).alloc (.map #[] 0)).alloc (.cells #[.map (some (w.heap.size + 1 + 1))] 127)).heap.size = w.heap.size + 1 + 1 + 1 + 1 := by simp
  obtain ⟨W4, hW4⟩ : ∃ W, ((((w.alloc (.cells #[.int .i64 n, .int .i64 id, .int .i64 own, .int .i64 view, .int .i64 left, .slice Av lv0 cv, .int .i64 lv, .int .i64 lx, .int .i64 dn, .slice Ap lp0 cp, .slice Ao lo0 co, .slice Ar lr0 cr, .slice Ad ld0 cd, .slice Ah lh0 ch] 40)).alloc (.cells #[.int .i64 0] 3)).alloc (.map #[] 0)).alloc (.cells #[.map (some (w.heap.size + 1 + 1))] 127)) = W := ⟨_, rfl⟩
  rw [hW4] at ka k0 kM kS hO hB hz4 ⊢
  clear hW4 hmm ra
  have hz5 : (W4.alloc (.cells #[.slice Ah lh0 ch] 38)).heap.size = w.heap.size + 1 + 1 + 1 + 1 + 1 := by rw [World.size_alloc, hz4]
  have ka := ka.alloc (.cells #[.slice Ah lh0 ch] 38); have k0 := k0.alloc (.cells #[.slice Ah lh0 ch] 38); have kM := kM.alloc (.cells #[.slice Ah lh0 ch] 38); have hO := hO.alloc (.cells #[.slice Ah lh0 ch] 38)
  obtain ⟨W5, hW5⟩ : ∃ W, W4.alloc (.cells #[.slice Ah lh0 ch] 38) = W := ⟨_, rfl⟩
  rw [hW5] at ka k0 kM kS hO hB hz5 ⊢
  clear hW5 hz4
  refine wpIn_rangeFunc_ownH rfl (by decide) (gf := 113) (lb := #[.pointer (some ⟨w.heap.size + 1 + 1 + 1 + 1, 0, none⟩)]) rfl trivial (enters_of Try.func113 (by kernel_rfl) rfl)
    (backward_stops Fence.wide (6 - 1) trivial rfl (by decide) (w.heap.size + 1 + 1 + 1 + 1) (w.heap.size + 1 + 1 + 1 + 1 + 1) Ah lh0 ch hs ELH.out hlh W5 (by omega) (by omega) (kS.cell 0) ((RH.out.below hB).more (by omega))) KpC.tr kpC_b (Below.refl _ _) (fun _ => rfl)
    (JI w #[.int .i64 n, .int .i64 id, .int .i64 own, .int .i64 view, .int .i64 left, .slice Av lv0 cv, .int .i64 lv, .int .i64 lx, .int .i64 dn, .slice Ap lp0 cp, .slice Ao lo0 co, .slice Ar lr0 cr, .slice Ad ld0 cd, .slice Ah lh0 ch] hs view wk) (JX w #[.int .i64 n, .int .i64 id, .int .i64 own, .int .i64 view, .int .i64 left, .slice Av lv0 cv, .int .i64 lv, .int .i64 lx, .int .i64 dn, .slice Ap lp0 cp, .slice Ao lo0 co, .slice Ar lr0 cr, .slice Ad ld0 cd, .slice Ah lh0 ch] hs view wk) (JI.own w _ hs view wk (by omega)) (fun c => JX.own w _ hs view wk (by omega) c)
    ⟨ka, k0, kM, hO, hB, P1.nil_ _ _ _, by omega⟩
    (fun x a' W => ∃ Bx, w.heap.size + 1 + 1 + 1 + 1 < Bx ∧ Blk W Bx 122 #[.int .i64 (hs.getD x.1 zH).v, .slice (hs.getD x.1 zH).A (hs.getD x.1 zH).ps.length (hs.getD x.1 zH).c] ∧ a' = { tmps := #[.agg #[.int .i64 n, .int .i64 id, .int .i64 own, .int .i64 view, .int .i64 left, .slice Av lv0 cv, .int .i64 lv, .int .i64 lx, .int .i64 dn, .slice Ap lp0 cp, .slice Ao lo0 co, .slice Ar lr0 cr, .slice Ad ld0 cd, .slice Ah lh0 ch], .pointer (some ⟨w.heap.size, 0, none⟩), .pointer (some ⟨w.heap.size + 1, 0, none⟩), .pointer (some ⟨w.heap.size + 1 + 1 + 1, 0, none⟩), undef, .pointer (some ⟨Bx, 0, none⟩), undef, undef, .map (some (w.heap.size + 1 + 1)), .pointer (some ⟨w.heap.size, 13, none⟩), .slice Ah lh0 ch, .func (.func 113) #[] #[.pointer (some ⟨w.heap.size + 1 + 1 + 1 + 1, 0, none⟩)], .int .i64 ((x.1 : Nat) : Int), .agg #[.int .i64 (hs.getD x.1 zH).v, .slice (hs.getD x.1 zH).A (hs.getD x.1 zH).ps.length (hs.getD x.1 zH).c], undef, undef, undef, undef, undef, undef, undef, undef, undef, undef, undef, undef, undef, undef, undef, undef, undef, undef, undef, undef, undef, undef, undef, undef, undef, undef], defers := [] })
    (fun x a' _ X Y row ⟨Bx, h1, h2, h3⟩ hg hr => ⟨Bx, h1, blk_own h2 hg fun r e => (hr r e).2, h3⟩)
    ?assign ?body ?done ?stop
  case assign =>
    rintro l pre x W K ⟨kR, k1, kM1, hO1, hB1, hP, hZ⟩ hK
    simp only [encH]
    obtain ⟨u, hu⟩ : ∃ u : Hp, hs.getD x.1 zH = u := ⟨_, rfl⟩
    rw [hu] at hK ⊢
    obtain ⟨hv, ps, hA, hc⟩ := u
    dsimp only at hK ⊢
    gi_wp2
    exact hK _ _ ((KeepsOthers.alloc _ _).from _) (KpC.below ((Below.refl _ W).alloc (by omega) _)) ⟨kR.alloc _, k1.alloc _, kM1.alloc _, hO1.alloc _, hB1.alloc hB1.size _, hP, by simp; omega⟩ ⟨W.heap.size, by omega, Blk.new W _ _, rfl⟩
  case body =>
    rintro l pre x a' W hl ⟨r, hr⟩ ⟨kR, k1, kM1, hO1, hB1, hP, hZ⟩ ⟨Bx, hBx, kX, rfl⟩ hlt
    have HSN := Lib.hid (fun h1 h2 => P1.snoc (x := x) hP h1 h2)
    have HP := Lib.hid hP
    have hfl := frL_len hs HFH.out pre
    have hxl := x.2
    have hxm : hs.getD x.1 zH ∈ hs := by rw [List.getD_eq_getElem?_getD, List.getElem?_eq_getElem hxl]; exact List.getElem_mem hxl
    have hwf := HWF.out _ hxm
    have hwp := HWP.out pre
    have hps := (HFH.out.2 x.1 hxl).1
    have hfr := frL_snoc hs pre x
    rw [hl_at] at hfr
    have HU := fun W2 (h : Below w.heap.size w W2) => (RdH.at_ (RH.out.below h) (k := x.1) hxl)
    obtain ⟨u, hu⟩ : ∃ u : Hp, hs.getD x.1 zH = u := ⟨_, rfl⟩
    have HU2 := Lib.hid (fun W2 h => by obtain ⟨_, _, _, _, _, _, hrr⟩ := HU W2 h; rw [hu] at hrr; exact hrr)
    clear HU
    rw [hu] at kX HSN hwf hps hfr ⊢
    obtain ⟨hv, ps, hA, hc⟩ := u
    dsimp only at kX HSN hwf hps hfr HU2 ⊢
    have HUX := Lib.hid hu
    simp only [hd1, frH, rl, List.map_map] at hfr
    obtain ⟨P, hPd⟩ : ∃ P, frL hs pre = P := ⟨_, rfl⟩
    rw [hPd] at hfr hfl hO1 hwp
    obtain ⟨m, hpm⟩ : ∃ m, ps.length = m := ⟨_, rfl⟩
    rw [hpm] at kX hps ⊢
    have HPM := Lib.hid hpm; have HFR := Lib.hid hfr; have HWP2 := Lib.hid hwp; have HWF2 := Lib.hid hwf
    have hmx : pre.length ≤ 1048576 := by have := hlt; rw [ELH.out] at this; omega
    clear hu hpm hfr hPd hwf hxm hwp hP
    have rX := kX.rule; have rR := kR.rule
    by_cases hle : hv ≤ view
    · gi_wp2
      exact ⟨KeepsFrom.refl _ _, .inl ⟨rfl, kR, k1, hB1, pre, x, rfl, HP.out, by rw [HUX.out]; exact hle⟩⟩
    · gi_wp2
      gi_loopw [22] (fun j wr => ∃ k, k ≤ m ∧ j = .int .i64 (k : Nat) ∧ Blk wr w.heap.size 40 #[.int .i64 n, .int .i64 id, .int .i64 own, .int .i64 view, .int .i64 left, .slice Av lv0 cv, .int .i64 lv, .int .i64 lx, .int .i64 dn, .slice Ap lp0 cp, .slice Ao lo0 co, .slice Ar lr0 cr, .slice Ad ld0 cd, .slice Ah lh0 ch] ∧ Blk wr (w.heap.size + 1) 3 #[.int .i64 0] ∧ Blk wr (w.heap.size + 1 + 1 + 1) 127 #[.map (some (w.heap.size + 1 + 1))] ∧ Blk wr Bx 122 #[.int .i64 hv, .slice hA m hc] ∧
        Hid (wr.ownsMap Try.prog 3 plB9 (w.heap.size + 1 + 1) (P.length + k) (setD (P ++ (ps.take k).map (fun p => p.r.f)))) ∧ Hid (Below w.heap.size w wr) ∧ Hid (KeepsFrom W5.heap.size W wr) ∧ Hid (KpC (w.heap.size + 1 + 1 + 1 + 1 + 1) W wr)) (fun j _ => m - (intOf j).toNat)
      case atStart => exact ⟨0, Nat.zero_le _, rfl, kR, k1, kM1, kX, by show World.ownsMap _ _ _ _ _ _ _; simpa using hO1, hB1, KeepsFrom.refl _ _, KpC.refl _ _⟩
      case round =>
        obtain ⟨k, hk, rfl, kR2, k12, kM2, kX2, hO2, hB2, hKF, hKp⟩ := hrel
        clear rX rR kR k1 kM1 kX hO1
        have rM2 := kM2.cell 0
        by_cases hlt2 : k < m
        · have hrr := HU2.out _ hB2.out
          obtain ⟨b2, off2, rfl, hbb2, hd0, hd1_, hd2, hd3, hrv⟩ := RdR.at_ hrr (k := k) (by rw [HPM.out]; exact hlt2)
          have hmem : ps.getD k zP ∈ ps := by rw [List.getD_eq_getElem?_getD, List.getElem?_eq_getElem (by rw [HPM.out]; exact hlt2)]; exact List.getElem_mem _
          have hwfk := HWF2.out _ hmem
          have htk : (ps.take (k + 1)).map (fun p => p.r.f) = (ps.take k).map (fun p => p.r.f) ++ [(ps.getD k zP).r.f] := by
            rw [take_getD ps zP k (by rw [HPM.out]; exact hlt2)]; simp
          have HTK := Lib.hid htk; clear htk hmem hrv hrr
          obtain ⟨⟨⟨rf, rv, rx, rvs⟩, rA, rc⟩, hu2⟩ : ∃ u, ps.getD k zP = u := ⟨_, rfl⟩
          rw [hu2] at hd0 hd1_ hd2 hd3 hwfk HTK
          simp only at hd0 hd1_ hd2 hd3 hwfk HTK
          clear hu2
          have kR3 := kR2.alloc (.cells #[.int .i64 rf, .int .i64 rv, .int .i64 rx, .slice rA rvs.length rc] 89); have k13 := k12.alloc (.cells #[.int .i64 rf, .int .i64 rv, .int .i64 rx, .slice rA rvs.length rc] 89); have kM3 := kM2.alloc (.cells #[.int .i64 rf, .int .i64 rv, .int .i64 rx, .slice rA rvs.length rc] 89); have kX3 := kX2.alloc (.cells #[.int .i64 rf, .int .i64 rv, .int .i64 rx, .slice rA rvs.length rc] 89)
          have kp := Blk.new wr 89 #[.int .i64 rf, .int .i64 rv, .int .i64 rx, .slice rA rvs.length rc]
          have rp := kp.rule; have rM3 := kM3.cell 0
          have hO3 := hO2.out.alloc (.cells #[.int .i64 rf, .int .i64 rv, .int .i64 rx, .slice rA rvs.length rc] 89)
          have hmapn : ∀ o, (wr.alloc (.cells #[.int .i64 rf, .int .i64 rv, .int .i64 rx, .slice rA rvs.length rc] 89)).heap[w.heap.size + 1 + 1]? = some o → o.isCells = false := fun o ho => by
            obtain ⟨es, cl, h9, _⟩ := hO3
            rw [h9] at ho; injection ho with ho; rw [← ho]; rfl
          gi_wp2_with (gi_at_mapUpdate; refine wpListIn_mapUpdate_own _ rfl _ _ _ 127 rfl 3 4 lawI9 Try.underlying127 plB9 (w.heap.size + 1 + 1) (P.length + k) _ rfl hO3 (by simp only [maxLen]; omega) _ _ _ rfl rfl (Maps.keyOf_int_mk Try.underlying3 hwfk) uT9 [] (plainElem_bool Try.underlying4 true) ?_; intro w1 hown1 hgrow1)
          have hsz3 : (wr.alloc (.cells #[.int .i64 rf, .int .i64 rv, .int .i64 rx, .slice rA rvs.length rc] 89)).heap.size = wr.heap.size + 1 := World.size_alloc _ _
          have hz1 := hgrow1.size
          have hBz := hB2.out.size
          rw [show (Lit.int .i64 rf) = litI9 rf from rfl, setD_snoc, List.append_assoc, ← HTK.out] at hown1
          have hO4 := Lib.hid hown1
          have kR4 := blk_gr kR3 hgrow1 (by omega); have k14 := blk_gr k13 hgrow1 (by omega); have kM4 := blk_gr kM3 hgrow1 (by omega); have kX4 := blk_gr kX3 hgrow1 (by omega)
          have hB4 := Lib.hid ((hB2.out.alloc hBz (.cells #[.int .i64 rf, .int .i64 rv, .int .i64 rx, .slice rA rvs.length rc] 89)).grown hgrow1 (by omega) (fun j e => by injection e with e; omega))
          have hKF4 := Lib.hid ((hKF.out.trans ((KeepsOthers.alloc _ _).from _)).trans (KeepsFrom.of_grownBy hgrow1 (fun j e => by injection e with e; omega)))
          have hKp4 := Lib.hid ((hKp.out.tr (KpC.below ((Below.refl _ wr).alloc (by have := kM2.lt; have := kX2.lt; omega) _))).tr (KpC.grown hgrow1 hmapn))
          clear hown1 hgrow1 hmapn hO3 kR3 k13 kM3 kX3 kp rp rM3
          go_roundw
          case rel => exact ⟨k + 1, by omega, by go_num, kR4, k14, kM4, kX4, hO4, hB4, hKF4, hKp4⟩
          case measure => simp [intOf]; omega
        · obtain rfl : k = m := by omega
          have hall : P ++ (ps.take k).map (fun p => p.r.f) = frL hs (pre ++ [x]) := by
            rw [HFR.out, List.take_of_length_le (by rw [HPM.out]; exact Nat.le_refl _)]; rfl
          have hO3 := hO2.out
          rw [hall] at hO3
          have hsize := size_setD (xs := frL hs (pre ++ [x])) (fun y hy => by
            rw [← hall] at hy
            rcases List.mem_append.1 hy with hy | hy
            · exact HWP2.out y hy
            · obtain ⟨p9, hp9, rfl⟩ := List.mem_map.1 hy
              exact HWF2.out p9 (List.mem_of_mem_take hp9))
          have hln := fun ty => hO3.len Try.underlying127 ty
          rw [hsize] at hln
          obtain ⟨N, hN⟩ : ∃ N, nd (frL hs (pre ++ [x])) = N := ⟨_, rfl⟩
          rw [hN] at hln HSN
          have HNN := Lib.hid hN
          have hlO : (P ++ (ps.take k).map (fun p => p.r.f)).length = P.length + k := by
            rw [List.length_append, List.length_map, List.length_take, HPM.out]; omega
          rw [← hlO, hall] at hO3
          have HO3 := Lib.hid hO3
          clear hN hsize hall hO2 hO3 hlO
          have rR2 := kR2.rule; have rX2 := kX2.rule
          gi_wp2_with fail
          refine ⟨trivial, ?_⟩
          refine (CallsIn.inRound l (callsIn_wide.2 (HWK.out _))).mono ?_
          rintro e w' ⟨rfl, rfl⟩
          by_cases hge : wk ≤ (N : Int)
          · have hdec : decide (wk ≤ (N : Int)) = true := decide_eq_true hge
            have r12 := k12.rule; have f12 := fun i => k12.frozen i
            gi_wp2
            exact ⟨hKF.out.trans ((KeepsOthers.setCell _ _ _).from _), .inr ⟨rfl, hB2.out.setCell (p := ⟨w.heap.size + 1, 0, none⟩) (by show w.heap.size ≤ w.heap.size + 1; omega) _, pre, x, rfl, by rw [HUX.out]; exact k12.set_ 0 _, HP.out, by rw [HUX.out]; show view < hv; omega, by rw [HNN.out]; exact hge⟩⟩
          · have hdec : decide (wk ≤ (N : Int)) = false := decide_eq_false hge
            gi_wp2
            exact ⟨hKF.out, hKp.out, kR2, k12, kM2, HO3.out, hB2.out, HSN.out (by show view < hv; omega) (by omega), by have := kX2.lt; omega⟩
  case done =>
    rintro D ys W hD rfl ⟨kR, k1, kM1, hO1, hB1, hP, hZ⟩ hK
    obtain rfl := HST.out _ hP (Nat.le_refl _) (fun j hj => absurd hj (by omega))
    have rR := kR.rule; have r1 := k1.rule; have f1 := fun i => k1.frozen i
    gi_wp2
    have hBz := hB1.setCell (p := ⟨w.heap.size + 1, 0, none⟩) (by show w.heap.size ≤ w.heap.size + 1; omega) (.int .i64 z)
    have kz : Blk _ _ _ _ := k1.set_ 0 (.int .i64 z)
    have hKz : (W.setCell ⟨w.heap.size + 1, 0, none⟩ (.int .i64 z)).heap[D]? = some (.deferred (some [])) := (Below.heap_setCell W _ _ D (by show D ≠ w.heap.size + 1; omega)).trans hK
    have hB9 := hBz.trans (belowK_b (w := w) (Nat.le_refl _) _ D _ (.deferred none) (by omega) hKz rfl rfl)
    have kz9 := blk_gr kz (grownBy_putObj' _ D (.deferred none)) (by omega)
    have rz := kz9.rule
    refine ⟨by simp, .inl ⟨_, _, rfl, run_takeDeferred hKz, ?_⟩⟩
    refine ⟨.int .i64 z, by simp [results, Try.results43, go_sem, rz], rfl, hB9⟩
  case stop =>
    rintro D c pre W hD ⟨k, hk, hpre⟩ hX hK
    rcases hX with ⟨rfl, kR, k1, hB1, p, x, hpx, hP, hv⟩ | ⟨rfl, hB1, p, x, hpx, kz, hP, hv, hw⟩
    · obtain ⟨k', rfl⟩ : ∃ k', k = k' + 1 := ⟨k - 1, by
        rcases k with _ | k
        · rw [hpre] at hpx; simp [dnH] at hpx
        · omega⟩
      have hsu := dnH_succ hs k' (hs.length - 1 - k') (by omega) (by omega)
      rw [hpre, hsu] at hpx
      have e1 := List.append_inj_left' hpx rfl
      have e2 := List.append_inj_right' hpx rfl
      simp only [List.cons.injEq, and_true] at e2
      subst e1
      obtain rfl := HST.out k' hP (by omega) (fun j hj => by
        have h9 : (hs.getD x.1 zH).v ≤ view := hv
        rw [← e2] at h9
        by_cases e : j = hs.length - 1 - k'
        · rw [e]; exact h9
        · have := HASC.out j (hs.length - 1 - k') (by omega) (by rw [hl_len]; omega)
          rw [hl_v, hl_v] at this
          exact Int.le_trans (Int.le_of_lt this) h9)
      clear hpx hpre hsu e2 hv
      have rR := kR.rule; have r1 := k1.rule; have f1 := fun i => k1.frozen i
      gi_wp2
      have hBz := hB1.setCell (p := ⟨w.heap.size + 1, 0, none⟩) (by show w.heap.size ≤ w.heap.size + 1; omega) (.int .i64 z)
      have kz : Blk _ _ _ _ := k1.set_ 0 (.int .i64 z)
      have hKz : (W.setCell ⟨w.heap.size + 1, 0, none⟩ (.int .i64 z)).heap[D]? = some (.deferred (some [])) := (Below.heap_setCell W _ _ D (by show D ≠ w.heap.size + 1; omega)).trans hK
      have hB9 := hBz.trans (belowK_b (w := w) (Nat.le_refl _) _ D _ (.deferred none) (by omega) hKz rfl rfl)
      have kz9 := blk_gr kz (grownBy_putObj' _ D (.deferred none)) (by omega)
      have rz := kz9.rule
      refine ⟨by simp, .inl ⟨_, _, rfl, run_takeDeferred hKz, ?_⟩⟩
      refine ⟨.int .i64 z, by simp [results, Try.results43, go_sem, rz], rfl, hB9⟩
    · obtain ⟨k', rfl⟩ : ∃ k', k = k' + 1 := ⟨k - 1, by
        rcases k with _ | k
        · rw [hpre] at hpx; simp [dnH] at hpx
        · omega⟩
      have hsu := dnH_succ hs k' (hs.length - 1 - k') (by omega) (by omega)
      rw [hpre] at hw
      rw [hpre, hsu] at hpx
      have e1 := List.append_inj_left' hpx rfl
      have e2 := List.append_inj_right' hpx rfl
      simp only [List.cons.injEq, and_true] at e2
      subst e1
      have hz := HRT.out k' x.1 hP (by rw [← e2]; show hs.length - 1 - k' + k' + 1 = hs.length; omega) hv (by
        have := HV9.out x.1 (by rw [hl_len]; exact x.2)
        rw [hl_v] at this
        exact this) hw
      have hKz := hK
      have hBz := hB1
      rw [← hz] at kz
      clear hpx hpre hsu e2 hv hw hz
      gi_wp2
      have hB9 := hBz.trans (belowK_b (w := w) (Nat.le_refl _) _ D _ (.deferred none) (by omega) hKz rfl rfl)
      have kz9 := blk_gr kz (grownBy_putObj' _ D (.deferred none)) (by omega)
      have rz := kz9.rule
      refine ⟨by simp, .inl ⟨_, _, rfl, run_takeDeferred hKz, ?_⟩⟩
      refine ⟨.int .i64 z, by simp [results, Try.results43, go_sem, rz], rfl, hB9⟩
end Go.Proofs.Ytfdfjmibjnmhpaa.V
