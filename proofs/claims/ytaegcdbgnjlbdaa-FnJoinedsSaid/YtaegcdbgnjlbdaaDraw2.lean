/-
  The model's draw of a tally. No statement is proved here.
-/
import Derived.Test.YtaegcdbgnjlbdaaCode
import Derived.Test.YtaegcdbgnjlbdaaImplAdd
import Derived.Below
set_option linter.unusedVariables false
set_option maxRecDepth 100000
namespace Go.Proofs.Ytaegcdbgnjlbdaa.V
open Go.RowKit Go.Proofs.Ytaegcdbgnjlbdaa.B

theorem below_i (Bd p : Nat) (N : Int) (h0 : 0 < N) (h1 : N ≤ 256) (w : World) (h : Cur Bd w p) :
    Calls Try.prog 38 #[.pointer (some ⟨p, 0, none⟩), .int .i64 N] w fun e w' => ∃ x : Nat, (x : Int) < N ∧ e = .returned (.int .i64 x) ∧ Cur Bd w' p ∧ w.grownBy w' (some p) := by
  obtain ⟨n, rfl⟩ : ∃ n : Nat, N = n := ⟨N.toNat, by omega⟩
  refine (below_any Bd p n (by omega) (by omega) w h).mono ?_
  rintro e w' ⟨x, hx, h2⟩
  exact ⟨x, by omega, h2⟩
theorem pick_any (Bd p g n c : Nat) (xs : List Int) (hn : xs.length = n) (h0 : 0 < n) (h1 : n ≤ 256) (w : World) (h : Cur Bd w p) (hcell : ∀ k, k < n → w.cell? ⟨g, k, none⟩ = some (.int .i64 (xs.getD k 0))) (hg : g ≠ p) :
    Calls Try.prog 39 #[.pointer (some ⟨p, 0, none⟩), .slice (some ⟨g, 0, none⟩) n c] w fun e w' => ∃ k, k < n ∧ e = .returned (.int .i64 (xs.getD k 0)) ∧ Cur Bd w' p ∧ w.grownBy w' (some p) := by
  have hgl : g < w.heap.size := World.block_lt_of_cell? w ⟨g, 0, none⟩ (hcell 0 h0)
  go_enter Try.func39, Try.ntmps39
  go_wp2_with fail
  refine (below_any Bd p n h0 h1 w h).mono ?_
  rintro e w1 ⟨k, hk, rfl, hc1, hg1⟩
  have r1 : w1.cell? ⟨g, k, none⟩ = some (.int .i64 (xs.getD k 0)) := (World.cell?_of_block (a := ⟨g, k, none⟩) (hg1.block g hgl (fun e => by injection e with e; exact hg e))).trans (hcell k hk)
  generalize hx : xs.getD k 0 = x at *
  have HX := Lib.hid hx; clear hx hcell
  have a1 : (0 : Int) ≤ (k : Int) := by omega
  have a2 : (k : Int) < (n : Int) := by omega
  go_wp2
  go_ret
  exact ⟨k, hk, by rw [HX.out]; rfl, hc1, hg1⟩
set_option maxHeartbeats 1600000 in
theorem l2own_row (A : Option Addr) (c : Nat) (vs : List B3) (w : World) (hr : Rd3 w w.heap.size A vs) (hn : vs.length ≤ 2097152) :
    Calls Try.prog 86 #[.agg #[.slice A vs.length c]] w fun e w' => ∃ B d, e = .returned (.agg #[.slice B vs.length d]) ∧ w'.ownsRow w.heap.size 61 3 (.slice B vs.length d) vs.length (bcells vs) ∧ Below w.heap.size w w' := by
  obtain ⟨i0, hi0, hz0, hz1, hz2⟩ := info_parts infoB4
  obtain ⟨n, hvn⟩ : ∃ n, vs.length = n := ⟨_, rfl⟩
  have hrr := hr.reads
  rw [hvn] at hn hrr ⊢
  have HV := Lib.hid hvn; clear hvn
  have ho := own_empty ((w.alloc (.cells #[.slice A n c] 44)).alloc (.cells #[.slice none 0 0] 44)) 61
  have kr := (Blk.new (w.alloc (.cells #[.slice A n c] 44)) 44 #[.slice none 0 0]).alloc (.cells #[] 61)
  have hr3 := ((hrr.alloc (Nat.le_refl _) (.cells #[.slice A n c] 44)).alloc (by simp) (.cells #[.slice none 0 0] 44)).alloc (by simp; omega) (.cells #[] 61)
  have hB3 : Below w.heap.size w (((w.alloc (.cells #[.slice A n c] 44)).alloc (.cells #[.slice none 0 0] 44)).alloc (.cells #[] 61)) := up_ (up_ (up_ (Below.refl _ _) _) _) _
  simp only [World.size_alloc] at ho kr
  have HO := Lib.hid ho; clear ho
  have HR3 := Lib.hid hr3; clear hr3 hrr hr
  have hlb := bcells_one vs
  have HLB := Lib.hid hlb; clear hlb
  go_enter Try.func86, Try.ntmps86
  go_wp2_with (at_builtin; refine wpList_append_any _ rfl (.tmp 3) (.tmp 5) 42 rfl (w.heap.size + 1 + 1) 61 i0 _ 3 24 Try.underlying42 hi0 hz0 hz1 hz2 rfl (by omega) (.slice (some ⟨w.heap.size + 1 + 1, 0, none⟩) 0 0) 0 [] rfl HO.out w.heap.size A n c (bcells vs) rfl HR3.out HLB.out (by simp only [maxLen]; omega) (by omega) (by simp) ?_; intro v2 w2 hown2 hgr2 hat2; obtain ⟨B2, d2, rfl⟩ := form3 hown2; have kr2 := keepK kr hgr2 (by simp [Value.ownBlock]); have rr2 := kr2.rule; have fr2 := (fun i => kr2.frozen i); have kr3 : Blk (w2.setCell ⟨w.heap.size + 1, 0, none⟩ (.slice B2 (0 + n) d2)) (w.heap.size + 1) 44 #[.slice B2 (0 + n) d2] := kr2.set_ 0 _; have rr3 := kr3.rule)
  simp only [Nat.zero_add, List.nil_append] at hown2 rr3
  have hB2 : Below w.heap.size w w2 := hB3.grown hgr2 (by simp; omega) (fun j hj => by simp only [Value.ownBlock] at hj; injection hj with hj; omega)
  refine bodyPost_ret (v := .agg #[.slice B2 n d2]) (by simp [results, Try.results86, go_sem, rr3]) rfl ?_
  exact ⟨B2, d2, rfl, own_more3 (ownsRow_setCell_below hown2 (by simp) _) (by omega), Below.setCell hB2 (by simp) _⟩

theorem l2add_ok (a b x : Int) (B : Option Addr) (d : Nat) (us : List B3) (w : World) (hr : Rd3 w w.heap.size B us) (hn : us.length ≤ 2097000) (hd : us.length ≤ d) :
    Calls Try.prog 85 #[.agg #[.slice B us.length d], .agg #[.int .i64 a, .int .i64 b, .int .i64 x]] w fun e w' => ∃ us2 B2 d2 q, e = .returned (.tuple #[.agg #[.slice B2 us2.length d2], .bool q]) ∧ us2.length ≤ us.length + 1 ∧ us2.length ≤ d2 ∧ Rd3 w' w'.heap.size B2 us2 ∧ Below w.heap.size w w' := by
  refine (l2add_go a b x B d (place us (a, b, x)) us (place_pl us (a, b, x)) w hr hn hd).mono ?_
  rintro e w' ⟨B2, d2, rfl, h1, h2, h3⟩
  refine ⟨_, B2, d2, _, rfl, ?_, h1, h2, h3⟩
  split
  · omega
  · rw [insT_len _ _ _ (place_pl us (a, b, x)).1]
    have := (place_pl us (a, b, x)).1
    omega
/-- Ballots that read do not lie in the cursor's block, nor in a box. -/
theorem rd3_ne {w : World} {Bd p b off : Nat} {us : List B3} {A : Option Addr} {n c : Nat} {i h : Value} {T : TypeId} (hk : Blk w p T #[.slice A n c, i, h]) (hr : Rd3 w Bd (some ⟨b, off, none⟩) us) (h0 : 0 < us.length) : b ≠ p := fun e => by
  obtain ⟨b', off', e1, _, hc⟩ := hr h0
  injection e1 with e1
  injection e1 with e1 e2
  subst e1 e2 e
  obtain ⟨c0, c1, c2⟩ := hc 0 h0
  rw [hk.cell] at c0 c1 c2
  rcases off with _ | _ | _ | off
  · simp at c0
  · simp at c2
  · simp at c1
  · simp at c0
theorem rd3_box {w : World} {Bd p b off : Nat} {us : List B3} {A : Option Addr} {n c : Nat} {T : TypeId} (hk : Blk w p T #[.slice A n c]) (hr : Rd3 w Bd (some ⟨b, off, none⟩) us) (h0 : 0 < us.length) : b ≠ p := fun e => by
  obtain ⟨b', off', e1, _, hc⟩ := hr h0
  injection e1 with e1
  injection e1 with e1 e2
  subst e1 e2 e
  obtain ⟨c0, c1, c2⟩ := hc 0 h0
  rw [hk.cell] at c0 c1 c2
  rcases off with _ | off
  · simp at c0
  · simp at c0
theorem rd3_far {w w' : World} {p : Nat} {us : List B3} {B : Option Addr} (hr : Rd3 w w.heap.size B us) (hg : w.grownBy w' (some p)) (hne : ∀ b off, B = some ⟨b, off, none⟩ → 0 < us.length → b ≠ p) : Rd3 w' w'.heap.size B us := fun h0 => by
  obtain ⟨b, off, rfl, hb, hc⟩ := hr h0
  have hn := hne b off rfl h0
  have hk : ∀ o, w'.cell? ⟨b, o, none⟩ = w.cell? ⟨b, o, none⟩ := fun o => World.cell?_of_block (a := ⟨b, o, none⟩) (hg.block b hb (fun e => by injection e with e; exact hn e))
  exact ⟨b, off, rfl, Nat.lt_of_lt_of_le hb hg.size, fun i hi => ⟨(hk _).trans (hc i hi).1, (hk _).trans (hc i hi).2.1, (hk _).trans (hc i hi).2.2⟩⟩
/-- On the way through l2draw: the cursor, the box of the tally, the box of the answer, what the tally reads. -/
def DSt (Bd p o r m : Nat) (B : Option Addr) (d : Nat) (us : List B3) (W0 W : World) : Prop :=
  Cur Bd W p ∧ Blk W o 44 #[.slice B us.length d] ∧ Blk W r 44 #[.slice none 0 0] ∧ us.length ≤ d ∧ us.length ≤ m ∧ Rd3 W W.heap.size B us ∧ W0.grownBy W (some p) ∧ p < W0.heap.size ∧ W0.heap.size ≤ o ∧ W0.heap.size ≤ r ∧ o ≠ r
section
variable {Bd p o r m d : Nat} {B : Option Addr} {us : List B3} {W0 W W' : World}
theorem DSt.cu (h : DSt Bd p o r m B d us W0 W) : Cur Bd W p := h.1
theorem DSt.bx (h : DSt Bd p o r m B d us W0 W) : ∀ i, W.cell? ⟨o, i, none⟩ = (#[.slice B us.length d] : Array Value)[i]? := fun i => h.2.1.cell i
theorem DSt.fx (h : DSt Bd p o r m B d us W0 W) : ∀ i, W.frozen? ⟨o, i, none⟩ = false := fun i => h.2.1.frozen i
theorem DSt.rr (h : DSt Bd p o r m B d us W0 W) : Rd3 W W.heap.size B us := h.2.2.2.2.2.1
theorem DSt.cur (h : DSt Bd p o r m B d us W0 W) (hc : Cur Bd W' p) (hg : W.grownBy W' (some p)) : DSt Bd p o r m B d us W0 W' := by
  obtain ⟨h1, h2, h3, h4, h5, h6, h7, h8, h9, h10, h11⟩ := h
  refine ⟨hc, keepK h2 hg (fun e => by injection e with e; omega), keepK h3 hg (fun e => by injection e with e; omega), h4, h5, rd3_far h6 hg (fun b off e h0 => ?_), h7.andThen hg (fun j hj => .inr hj), h8, h9, h10, h11⟩
  subst e
  obtain ⟨A, n, c, i, hh, kb, _⟩ := h1
  exact rd3_ne kb h6 h0
theorem DSt.dr (h : DSt Bd p o r m B d us W0 W) : DSt Bd p o r m B d us W0 W.drew := by
  obtain ⟨h1, h2, h3, h4, h5, h6, h7, h8, h9, h10, h11⟩ := h
  exact ⟨h1, h2, h3, h4, h5, h6, ⟨h7.os, h7.tape, h7.output, h7.size, h7.block⟩, h8, h9, h10, h11⟩
theorem DSt.below (h : DSt Bd p o r m B d us W0 W) (hb : Below W.heap.size W W') : DSt Bd p o r m B d us W0 W' := by
  obtain ⟨h1, h2, h3, h4, h5, h6, h7, h8, h9, h10, h11⟩ := h
  exact ⟨cur_next h1 hb, h2.on hb, h3.on hb, h4, h5, h6.on hb, h7.andThen (grown_of hb none) (fun j hj => by cases hj), h8, h9, h10, h11⟩
theorem DSt.put (h : DSt Bd p o r m B d us W0 W) {m2 d2 : Nat} {B2 : Option Addr} {us2 : List B3} (h1 : us2.length ≤ m2) (h2 : us2.length ≤ d2) (hr : Rd3 W W.heap.size B2 us2) : DSt Bd p o r m2 B2 d2 us2 W0 (W.setCell ⟨o, 0, none⟩ (.slice B2 us2.length d2)) := by
  obtain ⟨g1, g2, g3, g4, g5, g6, g7, g8, g9, g10, g11⟩ := h
  have hg : W.grownBy (W.setCell ⟨o, 0, none⟩ (.slice B2 us2.length d2)) (some o) := cgrown_set (cgrown_same _ _)
  refine ⟨cur_keep g1 hg (fun e => by injection e with e; omega) (fun j hj => by injection hj with hj; have := cur_lt g1; omega), g2.set_ 0 _, keepK g3 hg (fun e => by injection e with e; exact g11 e), h2, h1, rd3_far hr hg (fun b off e h0 => ?_), g7.andThen hg (fun j hj => .inl (by injection hj with hj; omega)), g8, g9, g10, g11⟩
  subst e
  exact rd3_box g2 hr h0
end
def DRes (Bd p : Nat) (w : World) (e : Ending) (w' : World) : Prop :=
  ∃ B d us, e = .returned (.agg #[.slice B us.length d]) ∧ us.length ≤ 14 ∧ w'.ownsRow w.heap.size 61 3 (.slice B us.length d) us.length (bcells us) ∧ Cur Bd w' p ∧ w.grownBy w' (some p)
set_option maxHeartbeats 6400000 in
theorem l2draw_any (Bd p : Nat) (w : World) (hc : Cur Bd w p) : Calls Try.prog 71 #[.pointer (some ⟨p, 0, none⟩)] w (DRes Bd p w) := by
  have hpl := (cur_lt hc).1
  have hst0 : DSt Bd p (w.heap.size + 1) w.heap.size 0 none 0 [] w ((w.alloc (.cells #[.slice none 0 0] 44)).alloc (.cells #[.slice none 0 0] 44)) :=
    ⟨cur_next hc (up_ (up_ (Below.refl _ _) _) _), by simpa using Blk.new (w.alloc (.cells #[.slice none 0 0] 44)) 44 #[.slice none 0 0], (Blk.new w _ _).alloc _, Nat.le_refl _, Nat.le_refl _, Rd3.nil_, grown_of (up_ (up_ (Below.refl _ _) _) _) _, hpl, by omega, Nat.le_refl _, by omega⟩
  have HST := Lib.hid hst0; clear hst0
  have hc1' := hc; clear hc
  go_enter Try.func71, Try.ntmps71
  go_wp2_with fail
  refine (below_any Bd p 14 (by omega) (by omega) _ HST.out.1).mono ?_
  rintro e w1 ⟨n, hn, rfl, hc1, hg1⟩
  have hst1 := HST.out.cur hc1 hg1
  clear HST
  go_wp2
  go_loopw [5] (fun i wr => ∃ (k : Nat) (B : Option Addr) (d : Nat) (us : List B3), k ≤ n ∧ i = .int .i64 k ∧ DSt Bd p (w.heap.size + 1) w.heap.size k B d us w wr) (fun i _ => n - (intOf i).toNat)
  case atStart => exact ⟨0, none, 0, [], Nat.zero_le _, rfl, hst1⟩
  case round =>
    clear hst1 hc1 hg1
    obtain ⟨k, B, d, us, hk, rfl, hst⟩ := hrel
    by_cases hlt : k < n
    · go_wp2
      have hd : DSt Bd p (w.heap.size + 1) w.heap.size k B d us w wr.drew := hst.dr
      clear hst
      have rb := hd.2.1.rule
      have hcu := hd.1
      have hrr := hd.2.2.2.2.2.1
      have hud := hd.2.2.2.1
      have huk : us.length ≤ k := hd.2.2.2.2.1
      have hul : us.length ≤ 2097000 := by omega
      go_region_law (first
        | (go_simp; go_at_call 38; first
            | (with_reducible refine (below_i Bd p 7 (by omega) (by omega) _ hcu).mono ?_; rintro e w2 ⟨x, hx, rfl, hc, hg⟩; replace hd := hd.cur hc hg; have hcu := hd.cu; have hrr := hd.rr; have rb2 := hd.bx)
            | (with_reducible refine (below_i Bd p 3 (by omega) (by omega) _ hcu).mono ?_; rintro e w2 ⟨x, hx, rfl, hc, hg⟩; replace hd := hd.cur hc hg; have hcu := hd.cu; have hrr := hd.rr; have rb2 := hd.bx; have hW : IntKind.i64.wrap (1 + (x : Int)) = 1 + (x : Int) := IntWalk.i64_in _ (by omega)))
        | (go_simp; go_at_call 85; with_reducible refine (l2add_ok _ _ _ B d us _ hrr hul hud).mono ?_; rintro e w3 ⟨us2, B2, d2, q, rfl, hl2, hcap2, hr2, hb2⟩; replace hd := hd.below hb2; have rb3 := hd.bx; have fb3 := hd.fx))
      all_goals go_wp2
      all_goals go_roundw
      all_goals first
        | (simp [intOf]; omega)
        | exact ⟨k + 1, B2, d2, us2, hlt, by go_num, hd.put (by omega) hcap2 hr2⟩
    · have hf : decide ((k : Int) < (n : Int)) = false := by simp; omega
      have rb := hst.bx
      have hul := hst.2.2.2.2.1
      go_wp2_with fail
      refine (l2own_row B d us wr hst.rr (by omega)).mono ?_
      rintro e w4 ⟨B4, d4, rfl, hown, hb4⟩
      have hs4 := hst.below hb4
      have kr := hs4.2.2.1
      have rr := kr.rule
      have fr := fun i => kr.frozen i
      have kr2 := kr.set_ 0 (.slice B4 us.length d4)
      have rr2 := kr2.rule
      go_wp2
      refine bodyPost_ret (v := .agg #[.slice B4 us.length d4]) (by simp [results, Try.results71, go_sem, rr2]) rfl ?_
      have hgs : w4.grownBy (w4.setCell ⟨w.heap.size, 0, none⟩ (.slice B4 us.length d4)) (some w.heap.size) := cgrown_set (cgrown_same _ _)
      have hcl := cur_lt hs4.cu
      have hbd := (cur_lt hc1').2
      have hgr := hst.2.2.2.2.2.2.1.size
      refine ⟨B4, d4, us, rfl, by omega, own_more3 (own_far hown (fun e => ?_)) hgr, cur_keep hs4.cu hgs (fun e => by injection e with e; omega) (fun j hj => by injection hj with hj; omega), hs4.2.2.2.2.2.2.1.andThen hgs (fun j hj => .inl (by injection hj with hj; omega))⟩
      have := (hown.lt _ e).1
      have hrl := hst.2.2.1.lt
      omega
end Go.Proofs.Ytaegcdbgnjlbdaa.V
