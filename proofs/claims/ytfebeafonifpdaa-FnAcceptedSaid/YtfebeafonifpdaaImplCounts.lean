/-
  counts of the program: its contract. No statement is proved here.
-/
import Derived.Test.YtfebeafonifpdaaImplAdd
import Derived.Laws.IdiomRangeMap
set_option linter.unusedVariables false
set_option maxRecDepth 100000
namespace Go.Proofs.Ytfebeafonifpdaa.V
open Go.RowKit Go.Proofs.Ytfebeafonifpdaa.B

theorem lawI : Maps.Keyed Try.prog 3 := Maps.int_keyed Try.underlying3
/-- The step of a range over a map of ballots. -/
theorem wpList_next_bals (w : World) {ops : Array Oper} {rest : List Oper} {o : Oper} {a : Act} {Q : Exit → Act → World → Prop}
    (hg : o.guard = none) (it : Operand) (hop : o.op = Op.next it false) (b r n : Nat) (D : DataW Unit) (left : Lit → Bool) (cnt : Nat) (hit : a.eval it = .pointer (some ⟨r, 0, none⟩)) (h : w.ranges Try.prog 109 plI b r n D left cnt)
    (hDone : cnt = 0 → (∀ kl, left kl = false) → wpList Try.prog ops Q rest (a.put o.dst (.tuple #[.bool false])) w)
    (hMore : ∀ (p q v : Int) (w' : World) (cnt' : Nat), wfI p → wfI q → wfI v → left (pk p q) = true → (∀ zd, D.atKey (pk p q) zd = .lit (.int .i64 v)) → w'.ranges Try.prog 109 plI b r n D (fun z => left z && !z.sameKey (pk p q)) cnt' → cnt' < cnt →
      w.grownBy w' (some r) → w'.heap.size = w.heap.size → (Instr.entry (.pointer (some ⟨r, 0, none⟩))).run Try.prog w' = .ok (.tuple #[.agg #[.int .i64 p, .int .i64 q], .int .i64 v]) w' → wpList Try.prog ops Q rest (a.put o.dst (.tuple #[.bool true, .agg #[.int .i64 p, .int .i64 q], .int .i64 v])) w') :
    wpList Try.prog ops Q (o :: rest) a w :=
  wpList_next_ranges w hg it hop 109 placeLaw plI (fun x : Int × Int => Value.agg #[.int .i64 x.1, .int .i64 x.2]) (Value.int .i64)
    (fun key kl hk => by obtain ⟨p, q, rfl, _⟩ := pk_inv hk; exact ⟨(p, q), rfl⟩) (fun v y hv => by obtain ⟨c, rfl, _⟩ := plainElem_int_inv Try.underlying3 hv; exact ⟨c, rfl⟩)
    b r n D left cnt hit h hDone (fun x c kl y w' cnt' hkey hlk hv hat hrg hlt hgr hsz hen => by
      obtain ⟨p, q, e, hp, hq, rfl⟩ := pk_inv hkey
      obtain ⟨x1, x2⟩ := x
      have e1 : x1 = p ∧ x2 = q := by simpa using e
      obtain ⟨rfl, rfl⟩ := e1
      obtain ⟨c', ec, rfl, hwc⟩ := plainElem_int_inv Try.underlying3 hv
      cases ec
      exact hMore x1 x2 c w' cnt' hp hq hwc hlk hat hrg hlt hgr hsz hen)

/-- How many of those that are done have told x in the view. -/
def seenN (L : List B3) (view x : Int) (left : Lit → Bool) : Nat := (L.filter fun u => isAt view x u && !left (pk u.2.1 u.1)).length
/-- D holds the numbers f, those that are not 0. -/
def CH (D : DataW Unit) (f : Int → Nat) : Prop := Maps.IsMap D ∧ ∀ x, wfI x → Maps.has D (.int .i64 x) = decide (0 < f x) ∧ (0 < f x → ∀ z, D.atKey (.int .i64 x) z = .lit (.int .i64 (f x)))
theorem filter_same {L : List B3} {P Q : B3 → Bool} (h : ∀ u ∈ L, P u = Q u) : L.filter P = L.filter Q := List.filter_congr h
theorem filter_one {P Q : B3 → Bool} {u0 : B3} : ∀ {L : List B3}, L.Pairwise (· ≠ ·) → u0 ∈ L → (∀ u ∈ L, u ≠ u0 → Q u = P u) → P u0 = false → (L.filter Q).length = (L.filter P).length + (if Q u0 then 1 else 0)
  | [], _, h, _, _ => by simp at h
  | a :: r, hp, hm, h, h0 => by
    obtain ⟨h1, h2⟩ := List.pairwise_cons.1 hp
    by_cases e : a = u0
    · subst e
      have hr : r.filter Q = r.filter P := filter_same fun u hu => h u (by simp [hu]) (fun e => h1 u hu e.symm)
      rcases hq : Q a with _ | _ <;> simp [hq, h0, hr]
    · have hm' : u0 ∈ r := by
        rcases List.mem_cons.1 hm with e' | e'
        · exact absurd e'.symm e
        · exact e'
      have ih := filter_one h2 hm' (fun u hu hne => h u (by simp [hu]) hne) h0
      have ha := h a (by simp) e
      rcases hq : P a with _ | _
      · simp only [List.filter_cons, ha, hq, Bool.false_eq_true, if_false]; exact ih
      · simp only [List.filter_cons, ha, hq, if_true, List.length_cons]; omega
theorem val_wf {L : List B3} (h : Val3 L) {u : B3} (hu : u ∈ L) : wfI u.1 ∧ wfI u.2.1 ∧ wfI u.2.2 := wf_of_ok (h.2 u hu)
theorem seen_step {L : List B3} (h : Val3 L) {left : Lit → Bool} {p q v : Int} (hm : (q, p, v) ∈ L) (hl : left (pk p q) = true) (view x : Int) :
    seenN L view x (fun z => left z && !z.sameKey (pk p q)) = seenN L view x left + (if p = view ∧ v = x then 1 else 0) := by
  have hwm := val_wf h hm
  have hs : (pk p q).sameKey (pk p q) = true := WideAt.sameKey_self (pk_isKey hwm.2.1 hwm.1)
  unfold seenN
  rw [filter_one (P := fun u => isAt view x u && !left (pk u.2.1 u.1)) (u0 := (q, p, v)) (h.1.imp fun {a b} hab e => by subst e; exact before_irr _ hab) hm (fun u hu hne => ?_) (by simp [hl])]
  · congr 1
    simp only [hs, isAt, Bool.not_true, Bool.and_false, Bool.not_false, Bool.and_true, decide_eq_true_eq]
  · have hwu := val_wf h hu
    have hk : (pk u.2.1 u.1).sameKey (pk p q) = false := Maps.sameKey_ne fun e => hne (by
      obtain ⟨e1, e2⟩ := pk_inj hwu.2.1 hwu.1 hwm.2.1 hwm.1 e
      exact one_place h.1 hu hm e1 e2)
    simp [hk]
theorem seen_zero (L : List B3) (view x : Int) (left : Lit → Bool) (h : ∀ u ∈ L, left (pk u.2.1 u.1) = true) : seenN L view x left = 0 := by
  unfold seenN
  rw [List.length_eq_zero_iff, List.filter_eq_nil_iff]
  intro u hu
  simp [h u hu]
theorem seen_all (L : List B3) (view x : Int) (left : Lit → Bool) (h : ∀ k, left k = false) : seenN L view x left = cntB L view x := by
  unfold seenN cntB
  congr 1
  exact filter_same fun u _ => by simp [h]
theorem seen_le (L : List B3) (view x : Int) (left : Lit → Bool) : seenN L view x left ≤ L.length := List.length_filter_le _ _
theorem ch_empty {f : Int → Nat} (h : ∀ x, f x = 0) : CH (.map []) f := ⟨Maps.isMap_empty, fun x _ => ⟨by simp [Maps.has, h], fun h1 => by have := h x; omega⟩⟩
theorem intKey {x : Int} (hx : wfI x) : WideAt.IsKeyLit (.int .i64 x) := lawI.key (Maps.keyOf_int_mk Try.underlying3 hx)
theorem ch_put {D : DataW Unit} {f g : Int → Nat} {v : Int} (h : CH D f) (hv : g v = f v + 1) (ho : ∀ x, x ≠ v → g x = f x) (k : Int) (hk : k = (f v : Int) + 1) : CH (D.put (.int .i64 v) (.lit (.int .i64 k))) g := by
  refine ⟨h.1.put _ _, fun x hx => ?_⟩
  by_cases e : x = v
  · subst e
    refine ⟨by rw [Maps.has_put_same h.1 (intKey hx)]; simp; omega, fun _ z => ?_⟩
    rw [Maps.atKey_put_same h.1 (intKey hx), hk, hv]
    simp
  · have hne : Lit.int .i64 x ≠ Lit.int .i64 v := fun e2 => e (by injection e2)
    obtain ⟨a, b⟩ := h.2 x hx
    refine ⟨by rw [Maps.has_put_other hne, a, ho x e], fun h0 z => ?_⟩
    rw [ho x e] at h0
    rw [Maps.atKey_put_other hne, b h0, ho x e]
theorem ch_at {D : DataW Unit} {f : Int → Nat} (h : CH D f) {x c : Int} (hx : wfI x) (hc : D.atKey (.int .i64 x) (.lit (.int .i64 0)) = .lit (.int .i64 c)) : c = f x := by
  obtain ⟨a, b⟩ := h.2 x hx
  by_cases h0 : 0 < f x
  · rw [b h0] at hc
    injection hc with hc; injection hc with _ hc; exact hc.symm
  · rw [Maps.atKey_of_not_has (by rw [a]; simpa using h0)] at hc
    injection hc with hc; injection hc with _ hc; omega
theorem ch_ext {D : DataW Unit} {f g : Int → Nat} (h : CH D f) (e : ∀ x, f x = g x) : CH D g := by
  have : f = g := funext e
  rwa [this] at h

/-- A map of the call's own that holds the counts of a view. -/
def Cnts (w : World) (b : Nat) (L : List B3) (view : Int) : Prop := ∃ D, w.ownsMap Try.prog 3 plI b L.length D ∧ CH D (fun x => cntB L view x)
def CRes (L : List B3) (view : Int) (w : World) (e : Ending) (w' : World) : Prop := ∃ b, e = .returned (.map (some b)) ∧ w.heap.size ≤ b ∧ Cnts w' b L view ∧ Below w.heap.size w w'
theorem counts_nil (view : Int) (w : World) : Calls Try.prog 99 #[.map none, .int .i64 view] w (CRes [] view w) := by
  have hmm := @run_makeMap Try.prog
  have hrg := run_range_nilMap (P := Try.prog) (w.alloc (.map #[] 0)) 92 109 3 Try.underlying92
  have hnx : ∀ ty, (Instr.next (.pointer (some ⟨(w.alloc (.map #[] 0)).heap.size, 0, none⟩)) false ty).run Try.prog ((w.alloc (.map #[] 0)).alloc (.mapIter none 0 #[] 0)) = _ := fun ty => run_next_nilMap _ ty 0 0 #[]
  have e1 : (w.alloc (.map #[] 0)).heap.size = w.heap.size + 1 := by simp
  rw [e1] at hrg hnx
  go_enter Try.func99, Try.ntmps99
  go_wp2
  refine wp_loop_rounds 1 ?_
  rw [rounds_succ]
  go_wp2
  go_ret
  exact ⟨_, rfl, Nat.le_refl _, ⟨_, (World.ownsMap_made _ _ _ _).alloc _, ch_empty fun x => by simp [cntB]⟩, ((Below.refl _ _).alloc (Nat.le_refl _) _).alloc (by simp) _⟩

set_option maxHeartbeats 3200000 in
theorem counts_some (b : Nat) (L : List B3) (hV : Val3 L) (hl : L.length ≤ 1048576) (view : Int) (w : World) (hbal : Bals w (.map (some b)) L) : Calls Try.prog 99 #[.map (some b), .int .i64 view] w (CRes L view w) := by
  obtain ⟨D, hown, hH⟩ : ∃ D, w.ownsMap Try.prog 109 plI b L.length D ∧ Holds D L := by
    rcases hbal with ⟨h, _⟩ | ⟨b', D, e, h1, h2⟩
    · cases h
    · injection e with e; injection e with e; subst e; exact ⟨D, h1, h2⟩
  have hmm := @run_makeMap Try.prog
  have hbl := hown.lt
  have hlen := hown.size_le
  have e1 : (w.alloc (.map #[] 0)).heap.size = w.heap.size + 1 := by simp
  have hhas : ∀ u ∈ L, Maps.has D (pk u.2.1 u.1) = true := fun u hu => by
    have hw := val_wf hV hu
    rw [(hH.2 _ _ hw.2.1 hw.1).1]
    obtain ⟨ua, ub, uc⟩ := u
    exact ((found_iff hV.1).2 hu).1
  go_enter Try.func99, Try.ntmps99
  go_wp2_with (first
    | (at_range; refine wpList_range_own _ rfl _ 92 rfl 109 3 placeLaw Try.underlying92 _ b L.length _ rfl (hown.alloc _) ?_; intro w0 hrg0 hg0 hs0)
    | go_in)
  go_frame
  rw [e1] at hrg0 hs0 ⊢
  go_loopw [7] (fun _ wr => ∃ (left : Lit → Bool) (cnt m : Nat) (D2 : DataW Unit), wr.ranges Try.prog 109 plI b (w.heap.size + 1) L.length D left cnt ∧ m + cnt ≤ L.length ∧
      wr.ownsMap Try.prog 3 plI w.heap.size m D2 ∧ CH D2 (fun x => seenN L view x left) ∧ Below w.heap.size w wr ∧ w.heap.size + 2 ≤ wr.heap.size)
    (fun _ wr => wr.rangeLeft b (w.heap.size + 1))
  case atStart =>
    exact ⟨_, _, 0, .map [], hrg0, by omega, (World.ownsMap_made _ _ _ _).kept hg0 (by simp), ch_empty fun x => seen_zero _ _ _ _ hhas, ((Below.refl _ _).alloc (Nat.le_refl _) _).grown hg0 (by simp) (fun j hj => by cases hj), by omega⟩
  case round =>
    obtain ⟨left, cnt, m, D2, hrg, hcs, hout, hC, hnx, hsz⟩ := hrel
    go_wp2_with (first
      | (at_next; refine wpList_next_bals _ rfl _ rfl b (w.heap.size + 1) L.length _ _ _ rfl hrg ?_ ?_)
      | go_in)
    · intro hc0 hl0
      go_wp2
      go_ret
      exact ⟨_, rfl, Nat.le_refl _, ⟨D2, hout.mono (by omega), ch_ext hC fun x => seen_all _ _ _ _ hl0⟩, hnx⟩
    · intro p q v w1 cnt1 hp hq hv hlx hat hrg1 hlt hg1 hs1 hen
      have hm : (q, p, v) ∈ L := by
        have hh := Maps.has_true_of_atKey hat
        obtain ⟨a1, a2⟩ := hH.2 p q hp hq
        rw [a1] at hh
        refine (found_iff hV.1).1 ⟨hh, ?_⟩
        have := a2 hh (.lit (.int .i64 0))
        rw [hat] at this
        injection this with this; injection this with _ this; exact this.symm
      have hstep := fun x => seen_step hV hm hlx view x
      have HSTEP := Lib.hid hstep; clear hstep hm hat
      have hout1 := (hout.kept hg1 (by simp)).alloc (.cells #[.int .i64 p, .int .i64 q] 109)
      have hrg2 := hrg1.alloc (.cells #[.int .i64 p, .int .i64 q] 109)
      have hnx1 := (hnx.grown hg1 hnx.size (fun j hj => by cases hj; exact Nat.le_succ _)).alloc (by omega) (.cells #[.int .i64 p, .int .i64 q] 109)
      have ka := Blk.new w1 109 #[.int .i64 p, .int .i64 q]
      have ra := ka.rule
      by_cases e : p = view
      · subst e
        go_wp2_with (first
          | (at_lookup; refine wpList_lookup_own_int _ rfl _ _ 117 rfl 3 3 .i64 lawI Try.underlying117 Try.underlying3 (zeroI _) w.heap.size _ _ rfl hout1 _ _ rfl (Maps.keyOf_int_mk Try.underlying3 hv) ?_; intro c hat2 hwc)
          | (at_mapUpdate; refine wpList_mapUpdate_own _ rfl _ _ _ 117 rfl 3 3 lawI Try.underlying117 _ w.heap.size _ _ rfl hout1 (by unfold maxLen; omega) _ _ _ rfl rfl (Maps.keyOf_int_mk Try.underlying3 hv) _ [] (plainElem_int Try.underlying3 (wrap64_wf _)) ?_; intro w2 hout2 hg2; go_frame)
          | go_in)
        have hc := ch_at hC hv hat2
        have hle := seen_le L p v left
        have hrg3 := hrg2.kept hg2 (fun e => by have := Option.some.inj e; omega) (fun e => by have := Option.some.inj e; omega)
        go_roundw
        case rel =>
          refine ⟨_, cnt1, m + 1, _, hrg3, by omega, hout2, ch_put hC (by rw [HSTEP.out]; simp) (fun x hx => by rw [HSTEP.out, if_neg (by rintro ⟨_, h⟩; exact hx h.symm)]; rfl) _ (by rw [IntWalk.wrap64_in _ (by omega), hc]), hnx1.grown hg2 (by simp; omega) (fun j hj => by cases hj; exact Nat.le_refl _), ?_⟩
          have := hg2.size
          simp at this
          omega
        case measure => rw [hrg3.left_eq, hrg.left_eq]; exact hlt
      · have hf : (p == view) = false := by simpa using e
        go_wp2
        go_roundw
        case rel => exact ⟨_, cnt1, m, _, hrg2, by omega, hout1, ch_ext hC fun x => by rw [HSTEP.out]; simp [e], hnx1, by simp; omega⟩
        case measure => rw [hrg2.left_eq, hrg.left_eq]; exact hlt
theorem counts_any (o : Option Nat) (L : List B3) (hV : Val3 L) (hl : L.length ≤ 1048576) (view : Int) (w : World) (hbal : Bals w (.map o) L) : Calls Try.prog 99 #[.map o, .int .i64 view] w (CRes L view w) := by
  rcases o with _ | b
  · have : L = [] := by
      rcases hbal with ⟨_, h⟩ | ⟨b', D, e, _⟩
      · exact h
      · cases e
    subst this
    exact counts_nil view w
  · exact counts_some b L hV hl view w hbal
end Go.Proofs.Ytfebeafonifpdaa.V
