/-
  The model's draw of a tally that may be bent. No statement is proved here.
-/
import Derived.Test.YtaegcdbgnjlbdaaDraw2
import Derived.Test.YtaegcdbgnjlbdaaOrder
set_option linter.unusedVariables false
set_option maxRecDepth 100000
namespace Go.Proofs.Ytaegcdbgnjlbdaa.V
open Go.RowKit Go.Proofs.Ytaegcdbgnjlbdaa.B

/-- Block g holds the numbers xs. -/
def Lit1 (W : World) (g n : Nat) (xs : List Int) : Prop := ∀ k, k < n → W.cell? ⟨g, k, none⟩ = some (.int .i64 (xs.getD k 0))
theorem pick_i (Bd p g n c : Nat) (xs : List Int) (hn : xs.length = n) (h0 : 0 < n) (h1 : n ≤ 256) (w : World) (h : Cur Bd w p) (hcell : Lit1 w g n xs) (hg : g ≠ p) :
    Calls Try.prog 39 #[.pointer (some ⟨p, 0, none⟩), .slice (some ⟨g, 0, none⟩) n c] w fun e w' => ∃ y : Int, e = .returned (.int .i64 y) ∧ Cur Bd w' p ∧ w.grownBy w' (some p) := by
  refine (pick_any Bd p g n c xs hn h0 h1 w h hcell hg).mono ?_
  rintro e w' ⟨k, _, rfl, h2⟩
  exact ⟨_, rfl, h2⟩
theorem Lit1.al {W : World} {g n : Nat} {xs : List Int} (h : Lit1 W g n xs) (O : Obj) : Lit1 (W.alloc O) g n xs := fun k hk => (World.cell?_alloc_lt W O ⟨g, k, none⟩ (World.block_lt_of_cell? W ⟨g, k, none⟩ (h k hk))).trans (h k hk)
theorem Lit1.dr {W : World} {g n : Nat} {xs : List Int} (h : Lit1 W g n xs) : Lit1 W.drew g n xs := h
theorem Lit1.cu {W W' : World} {g n p : Nat} {xs : List Int} (h : Lit1 W g n xs) (hg : W.grownBy W' (some p)) (hne : g ≠ p) : Lit1 W' g n xs := fun k hk => (World.cell?_of_block (a := ⟨g, k, none⟩) (hg.block g (World.block_lt_of_cell? W ⟨g, k, none⟩ (h k hk)) (fun e => by injection e with e; exact hne e))).trans (h k hk)
theorem litA (W : World) : Lit1 (W.alloc (.cells #[.int .i64 (-1), .int .i64 0, .int .i64 9, .int .i64 10] 3)) W.heap.size 4 [-1, 0, 9, 10] := fun k hk => by
  have hb := Blk.new W 3 #[.int .i64 (-1), .int .i64 0, .int .i64 9, .int .i64 10]
  rw [hb.cell]
  match k, hk with
  | 0, _ => rfl
  | 1, _ => rfl
  | 2, _ => rfl
  | 3, _ => rfl
theorem litA1 (W : World) (L : Obj) : Lit1 ((W.alloc L).alloc (.cells #[.int .i64 (-1), .int .i64 0, .int .i64 9, .int .i64 10] 3)) (W.heap.size + 1) 4 [-1, 0, 9, 10] := by
  have h := litA (W.alloc L)
  simpa using h
theorem litB (W : World) : Lit1 (W.alloc (.cells #[.int .i64 0, .int .i64 1, .int .i64 61] 3)) W.heap.size 3 [0, 1, 61] := fun k hk => by
  have hb := Blk.new W 3 #[.int .i64 0, .int .i64 1, .int .i64 61]
  rw [hb.cell]
  match k, hk with
  | 0, _ => rfl
  | 1, _ => rfl
  | 2, _ => rfl
theorem litB1 (W : World) (L : Obj) : Lit1 ((W.alloc L).alloc (.cells #[.int .i64 0, .int .i64 1, .int .i64 61] 3)) (W.heap.size + 1) 3 [0, 1, 61] := by
  have h := litB (W.alloc L)
  simpa using h
/-- On the way through l2bent. -/
def BSt (Bd p o r : Nat) (B : Option Addr) (d : Nat) (us : List B3) (W0 W : World) : Prop :=
  Cur Bd W p ∧ Blk W o 44 #[.slice B us.length d] ∧ Blk W r 44 #[.slice none 0 0] ∧ W.ownsRow W0.heap.size 61 3 (.slice B us.length d) us.length (bcells us) ∧ W0.grownBy W (some p) ∧ p < W0.heap.size ∧ W0.heap.size ≤ o ∧ W0.heap.size ≤ r ∧ o ≠ r ∧ (Value.slice B us.length d).ownBlock ≠ some o ∧ (Value.slice B us.length d).ownBlock ≠ some r
section
variable {Bd p o r d : Nat} {B : Option Addr} {us : List B3} {W0 W W' : World}
theorem BSt.cu (h : BSt Bd p o r B d us W0 W) : Cur Bd W p := h.1
theorem BSt.bx (h : BSt Bd p o r B d us W0 W) : ∀ i, W.cell? ⟨o, i, none⟩ = (#[.slice B us.length d] : Array Value)[i]? := fun i => h.2.1.cell i
theorem BSt.fx (h : BSt Bd p o r B d us W0 W) : ∀ i, W.frozen? ⟨o, i, none⟩ = false := fun i => h.2.1.frozen i
theorem BSt.ow (h : BSt Bd p o r B d us W0 W) : W.ownsRow W0.heap.size 61 3 (.slice B us.length d) us.length (bcells us) := h.2.2.2.1
theorem BSt.bk (h : BSt Bd p o r B d us W0 W) : Blk W o 44 #[.slice B us.length d] := h.2.1
theorem BSt.no (h : BSt Bd p o r B d us W0 W) : (Value.slice B us.length d).ownBlock ≠ some o := h.2.2.2.2.2.2.2.2.2.1
theorem BSt.lo (h : BSt Bd p o r B d us W0 W) : W0.heap.size ≤ W.heap.size := h.2.2.2.2.1.size
theorem BSt.dr (h : BSt Bd p o r B d us W0 W) : BSt Bd p o r B d us W0 W.drew := by
  obtain ⟨h1, h2, h3, h4, h5, h6⟩ := h
  exact ⟨h1, h2, h3, h4, ⟨h5.os, h5.tape, h5.output, h5.size, h5.block⟩, h6⟩
theorem BSt.al (h : BSt Bd p o r B d us W0 W) (O : Obj) : BSt Bd p o r B d us W0 (W.alloc O) := by
  obtain ⟨h1, h2, h3, h4, h5, h6⟩ := h
  exact ⟨cur_next h1 ((Below.refl _ _).alloc (Nat.le_refl _) O), h2.alloc O, h3.alloc O, h4.alloc O, h5.andThen (World.grownBy_alloc W O none) (fun j hj => by cases hj), h6⟩
theorem BSt.cur (h : BSt Bd p o r B d us W0 W) (hc : Cur Bd W' p) (hg : W.grownBy W' (some p)) : BSt Bd p o r B d us W0 W' := by
  obtain ⟨h1, h2, h3, h4, h5, h6, h7, h8, h9⟩ := h
  refine ⟨hc, keepK h2 hg (fun e => by injection e with e; omega), keepK h3 hg (fun e => by injection e with e; omega), h4.kept hg (.inr fun e => ?_), h5.andThen hg (fun j hj => .inr hj), h6, h7, h8, h9⟩
  have := (h4.lt p e).1
  omega
/-- Behind the append, the row stored in its box. -/
theorem BSt.app (h : BSt Bd p o r B d us W0 W) {W2 : World} {gg cap : Nat} {a b x : Int} (hown : W2.ownsRow W0.heap.size 61 3 (.slice (some ⟨gg, 0, none⟩) (us.length + 1) cap) (us.length + 1) (bcells us ++ [.int .i64 a, .int .i64 b, .int .i64 x])) (hgr : W.grownBy W2 (Value.slice B us.length d).ownBlock) (hat : (Value.slice B us.length d).ownBlock = some gg ∨ gg = W.heap.size) :
    BSt Bd p o r (some ⟨gg, 0, none⟩) cap (us ++ [(a, b, x)]) W0 (W2.setCell ⟨o, 0, none⟩ (.slice (some ⟨gg, 0, none⟩) (us.length + 1) cap)) := by
  obtain ⟨h1, h2, h3, h4, h5, h6, h7, h8, h9, h10, h11⟩ := h
  have hol : o < W.heap.size := h2.lt
  have hrl : r < W.heap.size := h3.lt
  have hno : (some gg : Option Nat) ≠ some o := by
    rcases hat with e | e
    · rw [← e]; exact h10
    · intro e2; injection e2 with e2; omega
  have hnr : (some gg : Option Nat) ≠ some r := by
    rcases hat with e | e
    · rw [← e]; exact h11
    · intro e2; injection e2 with e2; omega
  have hrow : ∀ j, (Value.slice B us.length d).ownBlock = some j → W0.heap.size ≤ j := fun j hj => (h4.lt j hj).1
  have hc2 : Cur Bd W2 p := cur_keep h1 hgr (fun e => by have := hrow p e; omega) (fun j hj => by have := hrow j hj; have := (cur_lt h1).2; omega)
  have hg : W2.grownBy (W2.setCell ⟨o, 0, none⟩ (.slice (some ⟨gg, 0, none⟩) (us.length + 1) cap)) (some o) := cgrown_set (cgrown_same _ _)
  have hln : (us ++ [(a, b, x)]).length = us.length + 1 := by simp
  refine ⟨cur_keep hc2 hg (fun e => by injection e with e; omega) (fun j hj => by injection hj with hj; have := (cur_lt h1).2; omega), ?_, keepK (keepK h3 hgr h11) hg (fun e => by injection e with e; exact h9 e), ?_, (h5.andThen hgr (fun j hj => .inl (hrow j hj))).andThen hg (fun j hj => .inl (by injection hj with hj; omega)), h6, h7, h8, h9, ?_, ?_⟩
  · rw [hln]; exact (keepK h2 hgr h10).set_ 0 _
  · rw [hln]
    refine own_far ?_ (by simpa [Value.ownBlock] using hno)
    rw [bcells_append]; exact hown
  · simpa [Value.ownBlock] using hno
  · simpa [Value.ownBlock] using hnr
end
/-- What each operation of the region yields, as long as the row is not appended to. -/
def BV (p o n : Nat) (B : Option Addr) (d : Nat) : Nat → Value → World → Prop
  | 0, u, _ => u = .pointer (some ⟨o, 0, none⟩)
  | 1, u, _ => u = .slice B n d
  | 2, u, _ => u = .pointer (some ⟨p, 0, none⟩)
  | 5, u, _ => u = .pointer (some ⟨p, 0, none⟩)
  | 8, u, _ => u = .pointer (some ⟨p, 0, none⟩)
  | 3, u, _ => ∃ x : Nat, x < 9 ∧ u = .int .i64 x
  | 4, u, _ => ∃ x : Int, u = .int .i64 x
  | 7, u, _ => ∃ x : Int, u = .int .i64 x
  | 10, u, _ => ∃ x : Int, u = .int .i64 x
  | 6, u, w => ∃ g, u = .slice (some ⟨g, 0, none⟩) 4 4 ∧ Lit1 w g 4 [-1, 0, 9, 10] ∧ g ≠ p
  | 9, u, w => ∃ g, u = .slice (some ⟨g, 0, none⟩) 3 3 ∧ Lit1 w g 3 [0, 1, 61] ∧ g ≠ p
  | 11, u, _ => ∃ x y z : Int, u = .agg #[.int .i64 x, .int .i64 y, .int .i64 z]
  | 12, u, w => ∃ (g : Nat) (x y z : Int), u = .slice (some ⟨g, 0, none⟩) 1 1 ∧ w.heap[g]? = some (.cells #[.int .i64 x, .int .i64 y, .int .i64 z] 61 (0, 0)) ∧ g ≠ p
  | _, _, _ => True
theorem BV.stab {p o n : Nat} {B : Option Addr} {d : Nat} {w w' : World} (hg : w.grownBy w' (some p)) : ∀ (j : Nat) (u : Value), BV p o n B d j u w → BV p o n B d j u w' := fun j u h => by
  unfold BV at *
  split at h
  all_goals first | exact h | skip
  · obtain ⟨g, e, h1, h2⟩ := h
    exact ⟨g, e, h1.cu hg h2, h2⟩
  · obtain ⟨g, e, h1, h2⟩ := h
    exact ⟨g, e, h1.cu hg h2, h2⟩
  · obtain ⟨g, x, y, z, e, h1, h2⟩ := h
    refine ⟨g, x, y, z, e, (hg.block g ?_ (fun e => by injection e with e; exact h2 e)).trans h1, h2⟩
    rcases Nat.lt_or_ge g w.heap.size with hlt | hge
    · exact hlt
    · rw [Array.getElem?_eq_none hge] at h1; cases h1
def BApp (Bd p o r n : Nat) (B : Option Addr) (d : Nat) (us : List B3) (W0 : World) (u : Value) (w : World) : Prop :=
  ∃ gg cap x y z, u = .slice (some ⟨gg, 0, none⟩) (n + 1) cap ∧ Blk w o 44 #[.slice B n d] ∧ BSt Bd p o r (some ⟨gg, 0, none⟩) cap (us ++ [(x, y, z)]) W0 (w.setCell ⟨o, 0, none⟩ (.slice (some ⟨gg, 0, none⟩) (n + 1) cap))
def BFin (Bd p o r : Nat) (us : List B3) (W0 w : World) : Prop := ∃ gg cap x y z, BSt Bd p o r (some ⟨gg, 0, none⟩) cap (us ++ [(x, y, z)]) W0 w
structure BI (Bd p o r n : Nat) (B : Option Addr) (d : Nat) (us : List B3) (W0 : World) (L : Nat → Prop) (vs : Nat → Value) (w : World) : Prop where
  st : ¬ L 13 → BSt Bd p o r B d us W0 w
  vals : ¬ L 13 → ∀ j, L j → BV p o n B d j (vs j) w
  app : L 13 → ¬ L 15 → BApp Bd p o r n B d us W0 (vs 13) w
  at14 : L 14 → vs 14 = .pointer (some ⟨o, 0, none⟩)
  fin : L 15 → BFin Bd p o r us W0 w
theorem BI.next {Bd p o r n : Nat} {B : Option Addr} {d : Nat} {us : List B3} {W0 : World} {L : Nat → Prop} {vs : Nat → Value} {w w' : World} {i : Nat} {v : Value} (h : BI Bd p o r n B d us W0 L vs w) (hi : i < 13) (h13 : ¬ L 13) (h14 : ¬ L 14) (h15 : ¬ L 15) (hs : BSt Bd p o r B d us W0 w') (hg : w.grownBy w' (some p)) (hv : BV p o n B d i v w') :
    BI Bd p o r n B d us W0 (fun j => j = i ∨ L j) (upd vs i v) w' := by
  refine ⟨fun _ => hs, fun _ j hj => ?_, fun hj => ?_, fun hj => ?_, fun hj => ?_⟩
  · by_cases e : j = i
    · subst e; rw [upd_same]; exact hv
    · rw [upd_ne e]; exact BV.stab hg j _ (h.vals h13 j (hj.resolve_left e))
  · rcases hj with e | e
    · omega
    · exact absurd e h13
  · rcases hj with e | e
    · omega
    · exact absurd e h14
  · rcases hj with e | e
    · omega
    · exact absurd e h15
def BRs (Bd p : Nat) (w : World) (e : Ending) (w' : World) : Prop :=
  ∃ B d us, e = .returned (.agg #[.slice B us.length d]) ∧ us.length ≤ 15 ∧ us.length ≤ d ∧ OT w' 61 w.heap.size B us ∧ Cur Bd w' p ∧ w.grownBy w' (some p)
theorem bent_end {Bd p o r d : Nat} {B : Option Addr} {us : List B3} {W0 W : World} (h : BSt Bd p o r B d us W0 W) (hl : us.length ≤ 15) :
    Blk (W.setCell ⟨r, 0, none⟩ (.slice B us.length d)) r 44 #[.slice B us.length d] ∧ us.length ≤ d ∧ OT (W.setCell ⟨r, 0, none⟩ (.slice B us.length d)) 61 W0.heap.size B us ∧ Cur Bd (W.setCell ⟨r, 0, none⟩ (.slice B us.length d)) p ∧ W0.grownBy (W.setCell ⟨r, 0, none⟩ (.slice B us.length d)) (some p) := by
  obtain ⟨h1, h2, h3, h4, h5, h6, h7, h8, h9, h10, h11⟩ := h
  have hg : W.grownBy (W.setCell ⟨r, 0, none⟩ (.slice B us.length d)) (some r) := cgrown_set (cgrown_same _ _)
  exact ⟨h3.set_ 0 _, cap_of h4, OT.of_own (own_far h4 h11), cur_keep h1 hg (fun e => by injection e with e; omega) (fun j hj => by injection hj with hj; have := (cur_lt h1).2; omega), h5.andThen hg (fun j hj => .inl (by injection hj with hj; omega))⟩
set_option maxHeartbeats 12800000 in
theorem l2bent_any (Bd p : Nat) (w : World) (hc0 : Cur Bd w p) : Calls Try.prog 45 #[.pointer (some ⟨p, 0, none⟩)] w (BRs Bd p w) := by
  obtain ⟨i0, hi0, hz0, hz1, hz2⟩ := info_parts infoB4
  have hpl := (cur_lt hc0).1
  have hcA := cur_next hc0 (up_ (Below.refl w.heap.size w) (.cells #[.slice none 0 0] 44))
  have kr := Blk.new w 44 #[.slice none 0 0]
  have hdr := l2draw_any Bd p _ hcA
  have HDR := Lib.hid hdr; clear hdr
  go_enter Try.func45, Try.ntmps45
  go_wp2_with fail
  refine HDR.out.mono ?_
  rintro e w1 ⟨B, d, us, rfl, hul, hown, hc1, hg1⟩
  have hs1 := hg1.size
  simp only [World.size_alloc] at hs1 hown
  have kr1 := keepK kr hg1 (fun e => by injection e with e; omega)
  have hb1 : BSt Bd p w1.heap.size w.heap.size B d us w (w1.alloc (.cells #[.slice B us.length d] 44)) :=
    ⟨cur_next hc1 ((Below.refl _ _).alloc (Nat.le_refl _) _), Blk.new w1 _ _, kr1.alloc _, (own_more3 hown (by omega)).alloc _, ((World.grownBy_alloc w _ (some p)).andThen hg1 (fun j hj => .inr hj)).andThen (World.grownBy_alloc w1 _ none) (fun j hj => by cases hj), hpl, by omega, Nat.le_refl _, by omega, fun e => by have := (hown.lt _ e).2; omega, fun e => by have := (hown.lt _ e).1; omega⟩
  clear hcA kr HDR kr1 hown hc1 hg1
  go_wp2_with fail
  refine (once_any Bd p 7 (by omega) (by omega) _ hb1.1).mono ?_
  rintro e wr ⟨q, rfl, hc2, hg2⟩
  have hb := hb1.cur hc2 hg2
  have hpr := (cur_lt hc2).1
  clear hb1 hg2
  generalize w1.heap.size = o at *
  rcases q with _ | _
  · obtain ⟨e1, e2, e3, e4, e5⟩ := bent_end hb (by omega)
    have rb := hb.bx
    have r1 := e1.rule
    have kz := hb.2.2.1
    have rz := kz.rule
    have fz := fun i => kz.frozen i
    go_wp2
    refine bodyPost_ret (v := .agg #[.slice B us.length d]) (by simp [results, Try.results45, go_sem, r1]) rfl ?_
    exact ⟨B, d, us, rfl, by omega, e2, e3, e4, e5⟩
  · have rb := hb.dr.bx
    have rba := fun O => (hb.al O).dr.bx
    have rbb := fun O L => ((hb.al O).al L).dr.bx
    go_wp2
    obtain ⟨n, hln⟩ : ∃ n, us.length = n := ⟨_, rfl⟩
    rw [hln] at hul ⊢
    have hbx := fun W (h : BSt Bd p o w.heap.size B d us w W) => h.bx
    rw [hln] at hbx
    have HBX := Lib.hid hbx; clear hbx rb rba rbb
    have HLN := Lib.hid hln
    refine wp_region_hold (fun vs => { tmps := #[.pointer (some ⟨p, 0, none⟩), undef, .pointer (some ⟨w.heap.size, 0, none⟩), .pointer (some ⟨o, 0, none⟩), .pointer (some ⟨p, 0, none⟩), .agg #[.slice B n d], .pointer (some ⟨p, 0, none⟩), .bool true, vs 0, vs 1, vs 2, vs 3, vs 4, vs 5, vs 6, vs 7, vs 8, vs 9, vs 10, vs 11, vs 12, vs 13, vs 14, undef], defers := [] }) (BI Bd p o w.heap.size n B d us w) (fun _ => undef) (by kernel_rfl) (by kernel_rfl) rfl ?_ ?_ ?_ ?_
    · repeat (refine Each.cons (fun us v => rfl) ?_)
      exact Each.nil
    · exact ⟨fun _ => hb.dr, fun _ _ h => h.elim, fun h => h.elim, fun h => h.elim, fun h => h.elim⟩
    · clear hb hc2
      refine Each.cons ?_ (Each.cons ?_ (Each.cons ?_ (Each.cons ?_ (Each.cons ?_ (Each.cons ?_ (Each.cons ?_ (Each.cons ?_ (Each.cons ?_ (Each.cons ?_ (Each.cons ?_ (Each.cons ?_ (Each.cons ?_ (Each.cons ?_ (Each.cons ?_ (Each.cons ?_ Each.nil)))))))))))))))
      · intro L vs wx hnL hdep hsh hI K hK
        have n13 : ¬ L 13 := fun h => hnL (hsh.far 12 13 0 (by decide) h)
        have n14 : ¬ L 14 := fun h => n13 (hsh.far 12 14 13 (by decide) h)
        have n15 : ¬ L 15 := fun h => n13 (hsh.far 12 15 13 (by decide) h)
        have hb := hI.st n13
        go_simp
        refine hK _ _ (.pointer (some ⟨o, 0, none⟩)) rfl ?_
        exact hI.next (by omega) n13 n14 n15 hb (cgrown_same _ _) (by first | rfl | exact ⟨_, rfl⟩ | exact ⟨_, _, _, rfl⟩)
      · intro L vs wx hnL hdep hsh hI K hK
        have n13 : ¬ L 13 := fun h => hnL (hsh.far 12 13 1 (by decide) h)
        have n14 : ¬ L 14 := fun h => n13 (hsh.far 12 14 13 (by decide) h)
        have n15 : ¬ L 15 := fun h => n13 (hsh.far 12 15 13 (by decide) h)
        have hb := hI.st n13
        have q0 := hI.vals n13 0 (hdep 0 (by decide))
        simp only [BV] at q0
        have rb := HBX.out _ hb
        go_simp
        refine hK _ _ (.slice B n d) (by dsimp only; rw [q0]; rfl) ?_
        exact hI.next (by omega) n13 n14 n15 hb (cgrown_same _ _) rfl
      · intro L vs wx hnL hdep hsh hI K hK
        have n13 : ¬ L 13 := fun h => hnL (hsh.far 12 13 2 (by decide) h)
        have n14 : ¬ L 14 := fun h => n13 (hsh.far 12 14 13 (by decide) h)
        have n15 : ¬ L 15 := fun h => n13 (hsh.far 12 15 13 (by decide) h)
        have hb := hI.st n13
        go_simp
        refine hK _ _ (.pointer (some ⟨p, 0, none⟩)) rfl ?_
        exact hI.next (by omega) n13 n14 n15 hb (cgrown_same _ _) (by first | rfl | exact ⟨_, rfl⟩ | exact ⟨_, _, _, rfl⟩)
      · intro L vs wx hnL hdep hsh hI K hK
        have n13 : ¬ L 13 := fun h => hnL (hsh.far 12 13 3 (by decide) h)
        have n14 : ¬ L 14 := fun h => n13 (hsh.far 12 14 13 (by decide) h)
        have n15 : ¬ L 15 := fun h => n13 (hsh.far 12 15 13 (by decide) h)
        have hb := hI.st n13
        have q2 := hI.vals n13 2 (hdep 2 (by decide))
        simp only [BV] at q2
        have hcu := hb.cu
        go_simp
        go_at_call 38
        refine (below_i Bd p 9 (by omega) (by omega) _ hcu).mono ?_
        rintro e w2 ⟨x, hx, rfl, hc, hg⟩
        refine hK _ _ (.int .i64 x) (by dsimp only; rw [q2]; rfl) ?_
        exact hI.next (by omega) n13 n14 n15 (hb.cur hc hg) hg ⟨x, by omega, rfl⟩
      · intro L vs wx hnL hdep hsh hI K hK
        have n13 : ¬ L 13 := fun h => hnL (hsh.far 12 13 4 (by decide) h)
        have n14 : ¬ L 14 := fun h => n13 (hsh.far 12 14 13 (by decide) h)
        have n15 : ¬ L 15 := fun h => n13 (hsh.far 12 15 13 (by decide) h)
        have hb := hI.st n13
        have q3 := hI.vals n13 3 (hdep 3 (by decide))
        simp only [BV] at q3
        obtain ⟨x, hx, q3⟩ := q3
        have hW : IntKind.i64.wrap ((x : Int) - 1) = (x : Int) - 1 := IntWalk.i64_in _ (by omega)
        go_simp
        refine hK _ _ (.int .i64 ((x : Int) - 1)) (by dsimp only; rw [q3]; rfl) ?_
        exact hI.next (by omega) n13 n14 n15 hb (cgrown_same _ _) ⟨_, rfl⟩
      · intro L vs wx hnL hdep hsh hI K hK
        have n13 : ¬ L 13 := fun h => hnL (hsh.far 12 13 5 (by decide) h)
        have n14 : ¬ L 14 := fun h => n13 (hsh.far 12 14 13 (by decide) h)
        have n15 : ¬ L 15 := fun h => n13 (hsh.far 12 15 13 (by decide) h)
        have hb := hI.st n13
        go_simp
        refine hK _ _ (.pointer (some ⟨p, 0, none⟩)) rfl ?_
        exact hI.next (by omega) n13 n14 n15 hb (cgrown_same _ _) (by first | rfl | exact ⟨_, rfl⟩ | exact ⟨_, _, _, rfl⟩)
      · intro L vs wx hnL hdep hsh hI K hK
        have n13 : ¬ L 13 := fun h => hnL (hsh.far 12 13 6 (by decide) h)
        have n14 : ¬ L 14 := fun h => n13 (hsh.far 12 14 13 (by decide) h)
        have n15 : ¬ L 15 := fun h => n13 (hsh.far 12 15 13 (by decide) h)
        have hb := hI.st n13
        go_simp
        have hpx := (cur_lt hb.cu).1
        refine hK _ _ (.slice (some ⟨wx.heap.size, 0, none⟩) 4 4) rfl ?_
        exact hI.next (by omega) n13 n14 n15 (hb.al _) (World.grownBy_alloc wx _ (some p)) ⟨_, rfl, litA wx, by omega⟩
      · intro L vs wx hnL hdep hsh hI K hK
        have n13 : ¬ L 13 := fun h => hnL (hsh.far 12 13 7 (by decide) h)
        have n14 : ¬ L 14 := fun h => n13 (hsh.far 12 14 13 (by decide) h)
        have n15 : ¬ L 15 := fun h => n13 (hsh.far 12 15 13 (by decide) h)
        have hb := hI.st n13
        have q5 := hI.vals n13 5 (hdep 5 (by decide))
        simp only [BV] at q5
        have q6 := hI.vals n13 6 (hdep 6 (by decide))
        simp only [BV] at q6
        obtain ⟨g, q6, hl, hgp⟩ := q6
        have hcu := hb.cu
        go_simp
        go_at_call 39
        refine (pick_i Bd p g 4 4 [-1, 0, 9, 10] rfl (by omega) (by omega) _ hcu hl hgp).mono ?_
        rintro e w2 ⟨y, rfl, hc, hg⟩
        refine hK _ _ (.int .i64 y) (by dsimp only; rw [q5, q6]; rfl) ?_
        exact hI.next (by omega) n13 n14 n15 (hb.cur hc hg) hg ⟨y, rfl⟩
      · intro L vs wx hnL hdep hsh hI K hK
        have n13 : ¬ L 13 := fun h => hnL (hsh.far 12 13 8 (by decide) h)
        have n14 : ¬ L 14 := fun h => n13 (hsh.far 12 14 13 (by decide) h)
        have n15 : ¬ L 15 := fun h => n13 (hsh.far 12 15 13 (by decide) h)
        have hb := hI.st n13
        go_simp
        refine hK _ _ (.pointer (some ⟨p, 0, none⟩)) rfl ?_
        exact hI.next (by omega) n13 n14 n15 hb (cgrown_same _ _) (by first | rfl | exact ⟨_, rfl⟩ | exact ⟨_, _, _, rfl⟩)
      · intro L vs wx hnL hdep hsh hI K hK
        have n13 : ¬ L 13 := fun h => hnL (hsh.far 12 13 9 (by decide) h)
        have n14 : ¬ L 14 := fun h => n13 (hsh.far 12 14 13 (by decide) h)
        have n15 : ¬ L 15 := fun h => n13 (hsh.far 12 15 13 (by decide) h)
        have hb := hI.st n13
        go_simp
        have hpx := (cur_lt hb.cu).1
        refine hK _ _ (.slice (some ⟨wx.heap.size, 0, none⟩) 3 3) rfl ?_
        exact hI.next (by omega) n13 n14 n15 (hb.al _) (World.grownBy_alloc wx _ (some p)) ⟨_, rfl, litB wx, by omega⟩
      · intro L vs wx hnL hdep hsh hI K hK
        have n13 : ¬ L 13 := fun h => hnL (hsh.far 12 13 10 (by decide) h)
        have n14 : ¬ L 14 := fun h => n13 (hsh.far 12 14 13 (by decide) h)
        have n15 : ¬ L 15 := fun h => n13 (hsh.far 12 15 13 (by decide) h)
        have hb := hI.st n13
        have q8 := hI.vals n13 8 (hdep 8 (by decide))
        simp only [BV] at q8
        have q9 := hI.vals n13 9 (hdep 9 (by decide))
        simp only [BV] at q9
        obtain ⟨g, q9, hl, hgp⟩ := q9
        have hcu := hb.cu
        go_simp
        go_at_call 39
        refine (pick_i Bd p g 3 3 [0, 1, 61] rfl (by omega) (by omega) _ hcu hl hgp).mono ?_
        rintro e w2 ⟨y, rfl, hc, hg⟩
        refine hK _ _ (.int .i64 y) (by dsimp only; rw [q8, q9]; rfl) ?_
        exact hI.next (by omega) n13 n14 n15 (hb.cur hc hg) hg ⟨y, rfl⟩
      · intro L vs wx hnL hdep hsh hI K hK
        have n13 : ¬ L 13 := fun h => hnL (hsh.far 12 13 11 (by decide) h)
        have n14 : ¬ L 14 := fun h => n13 (hsh.far 12 14 13 (by decide) h)
        have n15 : ¬ L 15 := fun h => n13 (hsh.far 12 15 13 (by decide) h)
        have hb := hI.st n13
        have q4 := hI.vals n13 4 (hdep 4 (by decide))
        simp only [BV] at q4
        have q7 := hI.vals n13 7 (hdep 7 (by decide))
        simp only [BV] at q7
        have q10 := hI.vals n13 10 (hdep 10 (by decide))
        simp only [BV] at q10
        obtain ⟨x, q4⟩ := q4
        obtain ⟨y, q7⟩ := q7
        obtain ⟨z, q10⟩ := q10
        go_simp
        refine hK _ _ (.agg #[.int .i64 x, .int .i64 y, .int .i64 z]) (by dsimp only; rw [q4, q7, q10]; rfl) ?_
        exact hI.next (by omega) n13 n14 n15 hb (cgrown_same _ _) ⟨_, _, _, rfl⟩
      · intro L vs wx hnL hdep hsh hI K hK
        have n13 : ¬ L 13 := fun h => hnL (hsh.far 12 13 12 (by decide) h)
        have n14 : ¬ L 14 := fun h => n13 (hsh.far 12 14 13 (by decide) h)
        have n15 : ¬ L 15 := fun h => n13 (hsh.far 12 15 13 (by decide) h)
        have hb := hI.st n13
        have q11 := hI.vals n13 11 (hdep 11 (by decide))
        simp only [BV] at q11
        obtain ⟨x, y, z, q11⟩ := q11
        have hpx := (cur_lt hb.cu).1
        go_simp
        refine hK _ _ (.slice (some ⟨wx.heap.size, 0, none⟩) 1 1) (by dsimp only; rw [q11]; rfl) ?_
        exact hI.next (by omega) n13 n14 n15 (hb.al _) (World.grownBy_alloc wx _ (some p)) ⟨_, x, y, z, rfl, heap_alloc_new wx _, by omega⟩
      · intro L vs wx hnL hdep hsh hI K hK
        have n14 : ¬ L 14 := fun h => hnL (hsh.far 12 14 13 (by decide) h)
        have n15 : ¬ L 15 := fun h => hnL (hsh.far 12 15 13 (by decide) h)
        have hb := hI.st hnL
        have q1 := hI.vals hnL 1 (hdep 1 (by decide))
        have q12 := hI.vals hnL 12 (hdep 12 (by decide))
        simp only [BV] at q1 q12
        obtain ⟨g, x, y, z, q12, hgc, hgp⟩ := q12
        have hlo := hb.lo
        have how := hb.ow
        have hbk := hb.bk
        have hno := hb.no
        rw [hln] at how hno hbk
        refine step_append_lies _ (by rfl) (.tmp 9) (.tmp 20) 42 (by rfl) w.heap.size 61 i0 _ 3 24 Try.underlying42 hi0 hz0 hz1 hz2 rfl (by omega) (.slice B n d) n (bcells us) (by simp [Act.eval, q1]) how ⟨g, 0, none⟩ 1 1 [.int .i64 x, .int .i64 y, .int .i64 z] (by simp [Act.eval, q12]) (by rfl) (World.news_of_block (cs := #[.int .i64 x, .int .i64 y, .int .i64 z]) (t := 61) (fr := (0, 0)) hgc) (by simp [Value.oneCell']) (by omega) (by simp only [maxLen]; omega) (by omega) (by omega) (wx.heap.size) (by omega) ?_
        intro gg cap w5 hown5 hgrow hat hlt5
        refine hK _ _ (.slice (some ⟨gg, 0, none⟩) (n + 1) cap) rfl ?_
        refine ⟨fun h => absurd (.inl rfl) h, fun h => absurd (.inl rfl) h, fun _ _ => ?_, fun h => ?_, fun h => ?_⟩
        · refine ⟨gg, cap, x, y, z, upd_same _ _ _, keepK hbk hgrow hno, ?_⟩
          have := BSt.app hb (a := x) (b := y) (x := z) (W2 := w5) (gg := gg) (cap := cap) (by rw [hln]; exact hown5) (by rw [hln]; exact hgrow) (by rw [hln]; exact hat)
          rwa [hln] at this
        · rcases h with e | e
          · omega
          · exact absurd e n14
        · rcases h with e | e
          · omega
          · exact absurd e n15
      · intro L vs wx hnL hdep hsh hI K hK
        have l13 : L 13 := hdep 13 (by decide)
        have n15 : ¬ L 15 := fun h => hnL (hsh.far 12 15 14 (by decide) h)
        go_simp
        refine hK _ _ (.pointer (some ⟨o, 0, none⟩)) rfl ?_
        refine ⟨fun h => absurd (.inr l13) h, fun h => absurd (.inr l13) h, fun _ _ => ?_, fun _ => upd_same _ _ _, fun h => ?_⟩
        · rw [upd_ne (by omega)]; exact hI.app l13 n15
        · rcases h with e | e
          · omega
          · exact absurd e n15
      · intro L vs wx hnL hdep hsh hI K hK
        have l13 : L 13 := hdep 13 (by decide)
        have q14 := hI.at14 (hdep 14 (by decide))
        obtain ⟨gg, cap, x, y, z, q13, hbk, hst⟩ := hI.app l13 hnL
        have rb := hbk.rule
        have fb := fun i => hbk.frozen i
        go_simp
        refine hK _ _ undef (by dsimp only; rw [q14, q13]; rfl) ?_
        refine ⟨fun h => absurd (.inr l13) h, fun h => absurd (.inr l13) h, fun _ h => absurd (.inl rfl) h, fun _ => ?_, fun _ => ⟨gg, cap, x, y, z, hst⟩⟩
        rw [upd_ne (by omega)]; exact q14
    · intro L vs wx hL hI
      obtain ⟨gg, cap, x, y, z, hst⟩ := hI.fin (hL 15 (by decide))
      obtain ⟨e1, e2, e3, e4, e5⟩ := bent_end hst (by simp; omega)
      have rb := hst.bx
      have r1 := e1.rule
      have kz := hst.2.2.1
      have rz := kz.rule
      have fz := fun i => kz.frozen i
      have hl15 : (us ++ [(x, y, z)]).length ≤ 15 := by simp; omega
      have hfin : ∀ W, (W = wx.setCell ⟨w.heap.size, 0, none⟩ (.slice (some ⟨gg, 0, none⟩) (us ++ [(x, y, z)]).length cap)) → BRs Bd p w (.returned (.agg #[.slice (some ⟨gg, 0, none⟩) (us ++ [(x, y, z)]).length cap])) W := fun W e => by subst e; exact ⟨_, cap, _, rfl, hl15, e2, e3, e4, e5⟩
      generalize (us ++ [(x, y, z)]).length = m at *
      clear hst kz e1 e2 e3 e4 e5 hI hL
      go_wp2
      refine bodyPost_ret (v := .agg #[.slice (some ⟨gg, 0, none⟩) m cap]) (by simp [results, Try.results45, go_sem, r1]) rfl ?_
      exact hfin _ rfl
end Go.Proofs.Ytaegcdbgnjlbdaa.V
