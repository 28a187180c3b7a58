/-
  l3bent of the model and the draws of chapter 3: some numbers and reports. No statement is proved here.
-/
import Derived.Test.YtcfjmhebhhekbaaL3Draw
set_option linter.unusedVariables false
set_option maxRecDepth 100000
namespace Go.Proofs.Ytcfjmhebhhekbaa.V
open Go.RowKit Go.Proofs.Ytcfjmhebhhekbaa.B

/-- p, locked otherwise. -/
def lk (p : Pp) (a b : Int) : Pp := ⟨⟨p.r.f, a, b, p.r.vs⟩, p.A, p.c⟩
def bareQ (f : Int) : Pp := ⟨⟨f, 0, 0, []⟩, none, 0⟩
theorem pcells_lk (qs : List Pp) (i : Nat) (hi : i < qs.length) (a b : Int) : ((pcells qs).set (i * 4 + 1) (.int .i64 a)).set (i * 4 + 2) (.int .i64 b) = pcells (qs.set i (lk (qs.getD i zP) a b)) := by
  induction qs generalizing i with
  | nil => simp at hi
  | cons q qs ih =>
    cases i with
    | zero => simp [pcells, pc1, lk]
    | succ i =>
      have := ih i (by simpa using hi)
      have e1 : (i + 1) * 4 + 1 = (i * 4 + 1) + 4 := by omega
      have e2 : (i + 1) * 4 + 2 = (i * 4 + 2) + 4 := by omega
      rw [e1, e2, List.getD_cons_succ, List.set_cons_succ]
      simp only [pcells, List.flatMap_cons] at this ⊢
      rw [← this]
      simp [pc1]
theorem own_lk {w : World} {base t n c : Nat} {B : Option Addr} {qs : List Pp} (h : w.ownsRow base t 4 (.slice B n c) n (pcells qs)) {i : Nat} (hi : i < qs.length) (a b : Int) :
    ∃ g, B = some ⟨g, 0, none⟩ ∧ base ≤ g ∧ g < w.heap.size ∧ (∃ y, w.cell? ⟨g, i * 4 + 1, none⟩ = some y) ∧ (∃ y, w.cell? ⟨g, i * 4 + 2, none⟩ = some y) ∧ (∀ o, w.frozen? ⟨g, o, none⟩ = false) ∧
      ((w.setCell ⟨g, i * 4 + 1, none⟩ (.int .i64 a)).setCell ⟨g, i * 4 + 2, none⟩ (.int .i64 b)).ownsRow base t 4 (.slice B n c) n (pcells (qs.set i (lk (qs.getD i zP) a b))) := by
  obtain ⟨hl, h⟩ := h
  have hn : n = qs.length := by rw [pcells_len] at hl; omega
  rcases h with ⟨h1, h2⟩ | ⟨g, cap, cur, h1, h2, h3, h4, h5, h6, h7⟩
  · omega
  · injection h1 with h1 h1a h1b
    have hk : Blk w g t cur := h3
    have hs : n * 4 ≤ cur.size := by
      have := congrArg List.length h7
      rw [List.length_take, hl] at this
      simp at this; omega
    refine ⟨g, h1, h2, hk.lt, ⟨_, (hk.cell _).trans (Array.getElem?_eq_getElem (by omega))⟩, ⟨_, (hk.cell _).trans (Array.getElem?_eq_getElem (by omega))⟩, fun o => hk.frozen o, ?_, .inr ⟨g, cap, _, by rw [h1, h1b], h2, (hk.set_ _ _).set_ _ _, h4, h5, by simpa using h6, ?_⟩⟩
    · rw [pcells_len, List.length_set]; omega
    · rw [Array.toList_setIfInBounds, Array.toList_setIfInBounds, List.take_set, List.take_set, h7, pcells_lk qs i hi a b]
/-- On the way through l3bent. -/
structure BS (Bd p : Nat) (w wr : World) (B : Option Addr) (d : Nat) (qs : List Pp) : Prop where
  cu : Cur Bd wr p
  own : wr.ownsRow w.heap.size 28 4 (.slice B qs.length d) qs.length (pcells qs)
  vm : ∀ q ∈ qs, VoM wr q
  len : qs.length ≤ 11
  sm : ∀ q ∈ qs, q.r.vs.length ≤ 10
  gr : w.grownBy wr (some p)
  pw : p < w.heap.size
  bd : Bd ≤ w.heap.size
section
variable {Bd p d : Nat} {w wr w' : World} {B : Option Addr} {qs : List Pp}
theorem BS.ne (h : BS Bd p w wr B d qs) : (Value.slice B qs.length d).ownBlock ≠ some p := fun e => by
  have := (h.own.lt p e).1
  have := h.pw
  omega
theorem BS.cur (h : BS Bd p w wr B d qs) (hc : Cur Bd w' p) (hg : wr.grownBy w' (some p)) : BS Bd p w w' B d qs :=
  ⟨hc, h.own.kept hg (.inr h.ne), fun q hq => (h.vm q hq).grown hg (cur_type h.cu) (by decide), h.len, h.sm, h.gr.andThen hg (fun j hj => .inr hj), h.pw, h.bd⟩
theorem BS.al (h : BS Bd p w wr B d qs) (O : Obj) : BS Bd p w (wr.alloc O) B d qs :=
  ⟨cur_next h.cu (up_ (Below.refl _ _) O), h.own.alloc O, fun q hq => (h.vm q hq).on (up_ (Below.refl _ _) O), h.len, h.sm, h.gr.andThen (grownN (up_ (Below.refl _ _) O) none) (fun j hj => by cases hj), h.pw, h.bd⟩
theorem BS.dr (h : BS Bd p w wr B d qs) : BS Bd p w wr.drew B d qs :=
  h.cur (cur_keep h.cu (cgrown_drewN (cgrown_same wr none) 1) (by simp) (by simp)) (cgrown_drewN (cgrown_same wr (some p)) 1)
theorem BS.lock (h : BS Bd p w wr B d qs) {i : Nat} (hi : i < qs.length) (a b : Int) : ∃ g, B = some ⟨g, 0, none⟩ ∧ (∃ y, wr.cell? ⟨g, i * 4 + 1, none⟩ = some y) ∧ (∃ y, wr.cell? ⟨g, i * 4 + 2, none⟩ = some y) ∧ (∀ o, wr.frozen? ⟨g, o, none⟩ = false) ∧ BS Bd p w ((wr.setCell ⟨g, i * 4 + 1, none⟩ (.int .i64 a)).setCell ⟨g, i * 4 + 2, none⟩ (.int .i64 b)) B d (qs.set i (lk (qs.getD i zP) a b)) := by
  obtain ⟨g, hB, hge, hlt, h1, h2, h3, h4⟩ := own_lk h.own hi a b
  have hty := own_type h.own
  rw [hB] at hty
  have hg : wr.grownBy ((wr.setCell ⟨g, i * 4 + 1, none⟩ (.int .i64 a)).setCell ⟨g, i * 4 + 2, none⟩ (.int .i64 b)) (some g) := only_setI (only_setI (World.grownBy.refl wr (some g)) _ _) _ _
  have hp := h.pw
  have hbd := h.bd
  have hm : ∀ q ∈ qs.set i (lk (qs.getD i zP) a b), ∃ u ∈ qs, q.A = u.A ∧ q.r.vs = u.r.vs := fun q hq => by
    rcases List.mem_or_eq_of_mem_set hq with h5 | h5
    · exact ⟨q, h5, rfl, rfl⟩
    · exact ⟨qs.getD i zP, getD_mem hi, by rw [h5]; rfl, by rw [h5]; rfl⟩
  refine ⟨g, hB, h1, h2, h3, cur_keep h.cu hg (ne_some (by omega)) (by intro j hj; injection hj with hj; omega), by rw [List.length_set]; exact h4, fun q hq => ?_, by rw [List.length_set]; exact h.len, fun q hq => ?_, h.gr.andThen hg (fun j hj => .inl (by injection hj with hj; omega)), h.pw, h.bd⟩
  · obtain ⟨u, hu, e1, e2⟩ := hm q hq
    have := (h.vm u hu).grown hg (fun j hj => hty j (by simpa [Value.ownBlock] using hj)) (by decide)
    unfold VoM at this ⊢
    rw [e1, e2]; exact this
  · obtain ⟨u, hu, e1, e2⟩ := hm q hq
    rw [e2]; exact h.sm u hu
theorem BS.app (h : BS Bd p w wr B d qs) {q : Pp} {B7 : Option Addr} {d7 : Nat} (hq : VoM w' q) (hql : q.r.vs.length ≤ 10) (hl : qs.length ≤ 10) (ho : w'.ownsRow w.heap.size 28 4 (.slice B7 (qs.length + 1) d7) (qs.length + 1) (pcells qs ++ pc1 q)) (hg : wr.grownBy w' (Value.slice B qs.length d).ownBlock) : BS Bd p w w' B7 d7 (qs ++ [q]) := by
  have hty := own_type h.own
  have hrow : ∀ j, (Value.slice B qs.length d).ownBlock = some j → w.heap.size ≤ j := fun j hj => (h.own.lt j hj).1
  have hbd := h.bd
  have hlen : (qs ++ [q]).length = qs.length + 1 := by simp
  refine ⟨cur_keep h.cu hg h.ne (fun j hj => by have := hrow j hj; omega), by rw [hlen]; exact own_app4 rfl ho, fun u hu => ?_, by rw [hlen]; omega, fun u hu => ?_, h.gr.andThen hg (fun j hj => .inl (hrow j hj)), h.pw, h.bd⟩
  · rw [List.mem_append, List.mem_singleton] at hu
    rcases hu with hu | rfl
    · exact (h.vm u hu).grown hg hty (by decide)
    · exact hq
  · rw [List.mem_append, List.mem_singleton] at hu
    rcases hu with hu | rfl
    · exact h.sm u hu
    · exact hql
end
/-- Numbers and reports of the call's own, the cursor moved on. -/
def BRes3 (Bd p : Nat) (w : World) (e : Ending) (w' : World) : Prop :=
  ∃ (n view : Int) (B : Option Addr) (d : Nat) (qs : List Pp), e = .returned (.tuple #[.int .i64 n, .int .i64 view, .slice B qs.length d]) ∧ 3 ≤ n ∧ n ≤ 7 ∧ 0 ≤ view ∧ view ≤ 10 ∧ BS Bd p w w' B d qs
set_option maxHeartbeats 3200000 in
theorem l3bent_any (Bd p : Nat) (w : World) (hB : Bd ≤ w.heap.size) (hc : Cur Bd w p) :
    Calls Try.prog 39 #[.pointer (some ⟨p, 0, none⟩)] w (BRes3 Bd p w) := by
  obtain ⟨i0, hi0, hz0, hz1, hz2⟩ := info_parts infoR
  have hpw := (cur_lt hc).1
  have hl1 := lit3 w 4 4 7
  have hc1 := cur_next hc (up_ (Below.refl w.heap.size w) (.cells #[.int .i64 4, .int .i64 4, .int .i64 7] 3))
  have hP1 := Lib.hid (pick_b Bd p w.heap.size 3 3 [4, 4, 7] 4 7 (by simp) rfl (by omega) (by omega) _ hc1 hl1 (by omega))
  clear hl1 hc1
  go_enter Try.func39, Try.ntmps39
  go_wp2_with fail
  refine hP1.out.mono ?_
  rintro e w1 ⟨n', hn1, hn2, rfl, hc1, hg1⟩
  clear hP1
  obtain ⟨n, rfl⟩ : ∃ n : Nat, n' = n := ⟨n'.toNat, by omega⟩
  have hgr1 : w.grownBy w1 (some p) := (grownN (up_ (Below.refl _ _) _) (some p)).andThen hg1 (fun j hj => .inr hj)
  go_wp2_with fail
  refine (below_i Bd p 4 (by omega) (by omega) _ hc1).mono ?_
  rintro e w2 ⟨x, hx, rfl, hc2, hg2⟩
  have hgr2 := hgr1.andThen hg2 (fun j hj => .inr hj)
  obtain ⟨vw, hvw⟩ : ∃ vw : Nat, 1 + (x : Int) = vw := ⟨1 + x, by omega⟩
  have hvl : vw ≤ 4 := by omega
  have hz2' := hgr2.size
  clear hg1 hc1 hgr1 hg2 hc
  go_wp2_with fail
  clear hvw hx
  refine (l3draw_any Bd p n vw (by omega) (by omega) (by omega) w2 (by omega) hc2).mono ?_
  rintro e w3 ⟨B, d, qs, rfl, hql, hown, hvm, hsm, hc3, hg3⟩
  have hS3 : BS Bd p w w3 B d qs := ⟨hc3, own_more3 hown hz2', hvm, by omega, hsm, hgr2.andThen hg3 (fun j hj => .inr hj), hpw, hB⟩
  clear hown hvm hsm hc3 hg3 hgr2 hc2 hz2'
  go_wp2_with fail
  refine (once_any Bd p 8 (by omega) (by omega) _ hS3.cu).mono ?_
  rintro e w4 ⟨q, rfl, hc4, hg4⟩
  have hS4 := hS3.cur hc4 hg4
  clear hS3 hc4 hg4
  have HFIN : Hid (∀ (n view : Int) (B : Option Addr) (d : Nat) (qs : List Pp) (W : World), 3 ≤ n → n ≤ 7 → 0 ≤ view → view ≤ 10 → BS Bd p w W B d qs → BRes3 Bd p w (.returned (.tuple #[.int .i64 n, .int .i64 view, .slice B qs.length d])) W) := fun n view B d qs W h1 h2 h3 h4 h5 => ⟨n, view, B, d, qs, rfl, h1, h2, h3, h4, h5⟩
  rcases q with _ | _
  · go_wp2
    refine bodyPost_ret (v := .tuple #[.int .i64 n, .int .i64 vw, .slice B qs.length d]) (by simp [results, Try.results39, go_sem]) rfl ?_
    exact HFIN.out _ _ _ _ _ _ (by omega) (by omega) (by omega) (by omega) hS4
  · go_wp2_with fail
    refine (below_i Bd p 4 (by omega) (by omega) _ hS4.cu).mono ?_
    rintro e w5 ⟨x5, hx5, rfl, hc5, hg5⟩
    have hS5 := hS4.cur hc5 hg5
    clear hS4 hc5 hg5
    rcases (by omega : x5 = 0 ∨ x5 = 1 ∨ x5 = 2 ∨ x5 = 3) with rfl | rfl | rfl | rfl
    · have hl6 := lit3 w5 3 5 4
      have hS6 := hS5.al (.cells #[.int .i64 3, .int .i64 5, .int .i64 4] 3)
      have hp5 := (cur_lt hS5.cu).1
      have hP6 := Lib.hid (pick_b Bd p w5.heap.size 3 3 [3, 5, 4] 3 7 (by simp) rfl (by omega) (by omega) _ hS6.cu hl6 (by omega))
      have HS6 := Lib.hid hS6
      clear hS5 hl6 hS6
      go_wp2_with fail
      refine hP6.out.mono ?_
      rintro e w7 ⟨y, hy1, hy2, rfl, hc7, hg7⟩
      have hS7 := HS6.out.cur hc7 hg7
      go_wp2
      refine bodyPost_ret (v := .tuple #[.int .i64 y, .int .i64 vw, .slice B qs.length d]) (by simp [results, Try.results39, go_sem]) rfl ?_
      exact HFIN.out _ _ _ _ _ _ (by omega) (by omega) (by omega) (by omega) hS7
    · have hl6 := lit4 w5 0 1 9 10
      have hS6 := hS5.al (.cells #[.int .i64 0, .int .i64 1, .int .i64 9, .int .i64 10] 3)
      have hp5 := (cur_lt hS5.cu).1
      have hP6 := Lib.hid (pick_b Bd p w5.heap.size 4 4 [0, 1, 9, 10] 0 10 (by simp) rfl (by omega) (by omega) _ hS6.cu hl6 (by omega))
      have HS6 := Lib.hid hS6
      clear hS5 hl6 hS6
      go_wp2_with fail
      refine hP6.out.mono ?_
      rintro e w7 ⟨y, hy1, hy2, rfl, hc7, hg7⟩
      have hS7 := HS6.out.cur hc7 hg7
      go_wp2
      refine bodyPost_ret (v := .tuple #[.int .i64 n, .int .i64 y, .slice B qs.length d]) (by simp [results, Try.results39, go_sem]) rfl ?_
      exact HFIN.out _ _ _ _ _ _ (by omega) (by omega) (by omega) (by omega) hS7
    · go_wp2_with fail
      refine (below_i Bd p 8 (by omega) (by omega) _ hS5.cu).mono ?_
      rintro e w6 ⟨y, hy, rfl, hc6, hg6⟩
      have HS6 := Lib.hid (hS5.cur hc6 hg6)
      clear hS5 hc6 hg6
      go_wp2_with (at_builtin; refine wpList_append_any _ rfl (.tmp 46) (.tmp 51) 23 rfl w.heap.size 28 i0 _ 4 48 Try.underlying23 hi0 hz0 hz1 hz2 rfl (by omega) (.slice B qs.length d) qs.length (pcells qs) rfl (HS6.out.own.alloc _) _ _ 1 1 (pc1 (bareQ ((y : Int) - 1))) rfl (lit_rep w6 28 (bareQ ((y : Int) - 1))) (pc1_one _) (by have := HS6.out.len; simp only [maxLen]; omega) (by have := HS6.out.len; omega) (by have := HS6.out.gr.size; simp; omega) ?_; intro v7 w7 hown7 hgr7 hat7)
      obtain ⟨B7, d7, rfl, -⟩ := formA hown7
      have hS7 := HS6.out.al (.cells #[.int .i64 ((y : Int) - 1), .int .i64 0, .int .i64 0, .slice none 0 0] 28) |>.app (q := bareQ ((y : Int) - 1)) (.inl rfl) (by simp [bareQ]) hql hown7 hgr7
      have hls : (qs ++ [bareQ ((y : Int) - 1)]).length = qs.length + 1 := by simp
      refine bodyPost_ret (v := .tuple #[.int .i64 n, .int .i64 vw, .slice B7 (qs ++ [bareQ ((y : Int) - 1)]).length d7]) (by simp [results, Try.results39, go_sem, hls]) rfl ?_
      exact HFIN.out _ _ _ _ _ _ (by omega) (by omega) (by omega) (by omega) hS7
    · by_cases h0 : 0 < qs.length
      · have hd0 : decide ((0 : Int) < (qs.length : Int)) = true := decide_eq_true (by omega)
        obtain ⟨g, rfl, -⟩ := hS5.lock h0 0 0
        go_wp2_with fail
        refine (below_i Bd p 6 (by omega) (by omega) _ hS5.cu).mono ?_
        rintro e w6 ⟨y, hy, rfl, hc6, hg6⟩
        have hS6 := hS5.cur hc6 hg6
        go_wp2_with fail
        refine (below_i Bd p 3 (by omega) (by omega) _ hS6.cu).mono ?_
        rintro e w7 ⟨z, hz, rfl, hc7, hg7⟩
        have hS7 := hS6.cur hc7 hg7
        obtain ⟨g', e', ⟨y1, C1⟩, ⟨y2, C2⟩, hfr, hS8⟩ := hS7.lock h0 ((y : Int) - 1) z
        injection e' with e'
        injection e' with e'
        subst e'
        simp only [Nat.zero_mul, Nat.zero_add] at C1 C2 hS8
        have HS8 := Lib.hid hS8
        clear hS5 hS6 hS7 hc6 hg6 hc7 hg7 hS8
        go_wp2
        have hls : (qs.set 0 (lk (qs.getD 0 zP) ((y : Int) - 1) z)).length = qs.length := List.length_set
        refine bodyPost_ret (v := .tuple #[.int .i64 n, .int .i64 vw, .slice (some ⟨g, 0, none⟩) (qs.set 0 (lk (qs.getD 0 zP) ((y : Int) - 1) z)).length d]) (by simp [results, Try.results39, go_sem]) rfl ?_
        exact HFIN.out _ _ _ _ _ _ (by omega) (by omega) (by omega) (by omega) HS8.out
      · have hd0 : decide ((0 : Int) < (qs.length : Int)) = false := decide_eq_false (by omega)
        go_wp2
        refine bodyPost_ret (v := .tuple #[.int .i64 n, .int .i64 vw, .slice B qs.length d]) (by simp [results, Try.results39, go_sem]) rfl ?_
        exact HFIN.out _ _ _ _ _ _ (by omega) (by omega) (by omega) (by omega) hS5
end Go.Proofs.Ytcfjmhebhhekbaa.V
