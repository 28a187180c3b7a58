/-
  The program's decoder reads a message, or panics: which of the two, for whatever bytes.
-/
import Derived.Test.YtaegcdbgnjlbdaaRead1
import Derived.Test.YtaegcdbgnjlbdaaRead2
import Derived.Test.YtaegcdbgnjlbdaaImplMsgOk
set_option linter.unusedVariables false
set_option maxRecDepth 100000
namespace Go.Proofs.Ytaegcdbgnjlbdaa.V
open Go.RowKit Go.ChangeShapes Go.WideShapes Go.Proofs.Ytaegcdbgnjlbdaa.B

/-- The bytes of votes, one behind the other. -/
def flat : List (Int × Int) → List Int
  | [] => []
  | u :: us => u.1 :: u.2 :: flat us
theorem flat_len : ∀ us, (flat us).length = 2 * us.length
  | [] => rfl
  | u :: us => by simp [flat, flat_len us]; omega
theorem flat_append : ∀ us vs, flat (us ++ vs) = flat us ++ flat vs
  | [], _ => rfl
  | u :: us, vs => by simp [flat, flat_append us vs]
theorem flat_inj : ∀ us vs, flat us = flat vs → us = vs
  | [], [], _ => rfl
  | [], v :: vs, h => by simp [flat] at h
  | u :: us, [], h => by simp [flat] at h
  | u :: us, v :: vs, h => by
    simp only [flat, List.cons.injEq] at h
    obtain ⟨h1, h2, h3⟩ := h
    rw [flat_inj us vs h3]
    congr 1
    exact Prod.ext h1 h2
def enc (k v x a b : Int) (us : List (Int × Int)) : List Int := k :: v :: x :: a :: b :: (us.length : Int) :: flat us
/-- The bytes are the encoding of a message. -/
def Good (xs : List Int) : Prop := ∃ k v x a b us, xs = enc k v x a b us ∧ msgOkB k v x a b us = true

/-- What the decoder's 'msg' does. -/
def MRes (xs : List Int) (w : World) (p : Nat) (e : Ending) (w' : World) : Prop :=
  (∃ k v x a b us B d, xs = enc k v x a b us ∧ msgOkB k v x a b us = true ∧ e = .returned (.agg #[.int .i64 k, .int .i64 v, .int .i64 x, .int .i64 a, .int .i64 b, .slice B us.length d]) ∧ OV w' 24 w.heap.size B us ∧ w.grownBy w' (some p)) ∨
  (Pan e ∧ ¬ Good xs ∧ w.grownBy w' (some p))

/-- Behind a step: the message's box, the decoder, and what was there. -/
structure Rg (w W : World) (p : Nat) (cs : Array Value) (xs : List Int) : Prop where
  res : Blk W w.heap.size 27 #[.int .i64 0, .int .i64 0, .int .i64 0, .int .i64 0, .int .i64 0, .slice none 0 0]
  box : Blk W (w.heap.size + 1) 27 cs
  dec : Dec W p xs
  grow : w.grownBy W (some p)
theorem Rg.next {w W W' : World} {p : Nat} {cs : Array Value} {xs xs' : List Int} (h : Rg w W p cs xs) (hp : p < w.heap.size) (hd : Dec W' p xs') (hg : W.grownBy W' (some p)) : Rg w W' p cs xs' :=
  ⟨(hg.block _ h.res.lt (fun e => by injection e with e; omega)).trans h.res, (hg.block _ h.box.lt (fun e => by injection e with e; omega)).trans h.box, hd, h.grow.trans hg⟩
theorem Rg.same {w W W' : World} {p : Nat} {cs : Array Value} {xs : List Int} (h : Rg w W p cs xs) (hp : p < w.heap.size) (hb : Below W.heap.size W W') : Rg w W' p cs xs :=
  ⟨h.res.on hb, h.box.on hb, h.dec.kept (row := none) ⟨hb.os, hb.tape, hb.output, hb.size, fun k hk _ => hb.block k hk⟩ (by simp), h.grow.trans ⟨hb.os, hb.tape, hb.output, hb.size, fun k hk _ => hb.block k hk⟩⟩
theorem Rg.set {w W : World} {p : Nat} {cs : Array Value} {xs : List Int} (h : Rg w W p cs xs) (hp : p < w.heap.size) (i : Nat) (v : Value) : Rg w (W.setCell ⟨w.heap.size + 1, i, none⟩ v) p (cs.setIfInBounds i v) xs :=
  ⟨h.res.far (by simp) v, h.box.set_ i v, h.dec.set_ (by omega) v, grown_set h.grow (by omega) v⟩
theorem Rg.app {w W W2 : World} {p : Nat} {cs : Array Value} {xs : List Int} {O : Obj} {row : Option Nat} (h : Rg w W p cs xs) (hp : p < w.heap.size) (hg : (W.alloc O).grownBy W2 row) (hr : ∀ g, row = some g → w.heap.size + 1 < g) : Rg w W2 p cs xs := by
  have h1 := h.res.lt
  have h2 := h.box.lt
  have h3 := hg.size
  simp only [World.size_alloc] at h3
  refine ⟨(hg.block _ (by simp; omega) (fun e => by have := hr _ e.symm; omega)).trans (h.res.alloc O), (hg.block _ (by simp; omega) (fun e => by have := hr _ e.symm; omega)).trans (h.box.alloc O), (h.dec.up O).kept hg (fun g e => by have := hr g e; omega), ?_⟩
  have ha := World.grownBy_alloc W O (some p)
  have hk := h.grow.trans ha
  exact ⟨hg.os.trans hk.os, hg.tape.trans hk.tape, hg.output.trans hk.output, by have := hk.size; simp at this; omega, fun k hk' hne => (hg.block k (by have := h.grow.size; simp; omega) (fun e => by have := hr _ e.symm; omega)).trans (hk.block k hk' hne)⟩
theorem Dec.dr {w : World} {p : Nat} {xs : List Int} (h : Dec w p xs) : Dec w.drew p xs := h
theorem own_next {W W' : World} {p e n : Nat} {v : Value} {xs : List Value} {base : Nat} (h : W.ownsRow base e 2 v n xs) (hg : W.grownBy W' (some p)) (hp : p < base) : W'.ownsRow base e 2 v n xs :=
  h.kept hg (.inr (fun h' => by have := (h.lt _ h').1; omega))
theorem By.rest {l1 l2 : List Int} (h : By (l1 ++ l2)) : By l2 := fun z hz => h z (List.mem_append_right _ hz)
theorem By.tail {x : Int} {xs : List Int} (h : By (x :: xs)) : By xs := fun z hz => h z (List.mem_cons_of_mem _ hz)
theorem not_good {xs : List Int} (h : xs.length < 6) : ¬ Good xs := fun ⟨k, v, x, a, b, us, e, _⟩ => by subst e; simp only [enc, List.length_cons] at h; omega

set_option maxHeartbeats 3200000 in
theorem msg_is (p : Nat) (xs : List Int) (hx : By xs) (w : World) (h : Dec w p xs) (hl : xs.length ≤ 1048576) :
    Calls Try.prog 66 #[.pointer (some ⟨p, 0, none⟩)] w (MRes xs w p) := by
  have hp := h.lt
  have s0 : Rg w ((w.alloc (.cells #[.int .i64 0, .int .i64 0, .int .i64 0, .int .i64 0, .int .i64 0, .slice none 0 0] 27)).alloc (.cells #[.int .i64 0, .int .i64 0, .int .i64 0, .int .i64 0, .int .i64 0, .slice none 0 0] 27)) p #[.int .i64 0, .int .i64 0, .int .i64 0, .int .i64 0, .int .i64 0, .slice none 0 0] xs := ⟨(Blk.new _ _ _).alloc _, by have := Blk.new (w.alloc (.cells #[.int .i64 0, .int .i64 0, .int .i64 0, .int .i64 0, .int .i64 0, .slice none 0 0] 27)) 27 #[.int .i64 0, .int .i64 0, .int .i64 0, .int .i64 0, .int .i64 0, .slice none 0 0]; simpa using this, (h.up _).up _, grown_alloc (World.grownBy_alloc _ _ _)⟩
  clear h
  go_enter Try.func66, Try.ntmps66
  go_wp2_with fail
  rcases xs with _ | ⟨k, xs⟩
  · refine (num_no p _ s0.dec).mono ?_
    rintro e w1 ⟨⟨u, pv, rfl⟩, hg1⟩
    exact ⟨rfl, .inr ⟨⟨_, _, rfl⟩, not_good (by simp), s0.grow.trans hg1⟩⟩
  refine (num_yes p k _ hx _ s0.dec).mono ?_
  rintro e w1 ⟨rfl, hd1, hg1⟩
  have hx1 : By xs := By.tail hx
  have t1 := s0.next hp hd1 hg1
  have rb1 := t1.box.rule
  have fb1 := fun i => t1.box.frozen i
  clear s0 hd1 hg1
  have s1 : Rg w (w1.setCell ⟨w.heap.size + 1, 0, none⟩ (.int .i64 k)) p #[.int .i64 k, .int .i64 0, .int .i64 0, .int .i64 0, .int .i64 0, .slice none 0 0] xs := t1.set hp 0 _
  clear t1
  go_wp2_with fail
  generalize w1.setCell ⟨w.heap.size + 1, 0, none⟩ (.int .i64 k) = u1 at *
  clear rb1 fb1
  rcases xs with _ | ⟨v, xs⟩
  · refine (num_no p _ s1.dec).mono ?_
    rintro e w2 ⟨⟨u, pv, rfl⟩, hg2⟩
    exact ⟨rfl, .inr ⟨⟨_, _, rfl⟩, not_good (by simp), s1.grow.trans hg2⟩⟩
  refine (num_yes p v _ hx1 _ s1.dec).mono ?_
  rintro e w2 ⟨rfl, hd2, hg2⟩
  have hx2 : By xs := By.tail hx1
  have t2 := s1.next hp hd2 hg2
  have rb2 := t2.box.rule
  have fb2 := fun i => t2.box.frozen i
  clear s1 hd2 hg2
  have s2 : Rg w (w2.setCell ⟨w.heap.size + 1, 1, none⟩ (.int .i64 v)) p #[.int .i64 k, .int .i64 v, .int .i64 0, .int .i64 0, .int .i64 0, .slice none 0 0] xs := t2.set hp 1 _
  clear t2
  go_wp2_with fail
  generalize w2.setCell ⟨w.heap.size + 1, 1, none⟩ (.int .i64 v) = u2 at *
  clear rb2 fb2
  rcases xs with _ | ⟨x, xs⟩
  · refine (num_no p _ s2.dec).mono ?_
    rintro e w3 ⟨⟨u, pv, rfl⟩, hg3⟩
    exact ⟨rfl, .inr ⟨⟨_, _, rfl⟩, not_good (by simp), s2.grow.trans hg3⟩⟩
  refine (num_yes p x _ hx2 _ s2.dec).mono ?_
  rintro e w3 ⟨rfl, hd3, hg3⟩
  have hx3 : By xs := By.tail hx2
  have t3 := s2.next hp hd3 hg3
  have rb3 := t3.box.rule
  have fb3 := fun i => t3.box.frozen i
  clear s2 hd3 hg3
  have s3 : Rg w (w3.setCell ⟨w.heap.size + 1, 2, none⟩ (.int .i64 x)) p #[.int .i64 k, .int .i64 v, .int .i64 x, .int .i64 0, .int .i64 0, .slice none 0 0] xs := t3.set hp 2 _
  clear t3
  go_wp2_with fail
  generalize w3.setCell ⟨w.heap.size + 1, 2, none⟩ (.int .i64 x) = u3 at *
  clear rb3 fb3
  rcases xs with _ | ⟨a, _ | ⟨b, xs⟩⟩
  · refine (vote_no p _ hx3 (by simp) _ s3.dec).mono ?_
    rintro e w4 ⟨⟨u, pv, rfl⟩, hg4⟩
    exact ⟨rfl, .inr ⟨⟨_, _, rfl⟩, not_good (by simp), s3.grow.trans hg4⟩⟩
  · refine (vote_no p _ hx3 (by simp) _ s3.dec).mono ?_
    rintro e w4 ⟨⟨u, pv, rfl⟩, hg4⟩
    exact ⟨rfl, .inr ⟨⟨_, _, rfl⟩, not_good (by simp), s3.grow.trans hg4⟩⟩
  refine (vote_yes p a b _ hx3 _ s3.dec).mono ?_
  rintro e w4 ⟨rfl, hd4, hg4⟩
  have hx4 : By xs := By.tail (By.tail hx3)
  have t4 := s3.next hp hd4 hg4
  have rb4 := t4.box.rule
  have fb4 := fun i => t4.box.frozen i
  clear s3 hd4 hg4
  have s4 : Rg w ((w4.setCell ⟨w.heap.size + 1, 3, none⟩ (.int .i64 a)).setCell ⟨w.heap.size + 1, 4, none⟩ (.int .i64 b)) p #[.int .i64 k, .int .i64 v, .int .i64 x, .int .i64 a, .int .i64 b, .slice none 0 0] xs := (t4.set hp 3 _).set hp 4 _
  clear t4
  go_wp2_with fail
  generalize (w4.setCell ⟨w.heap.size + 1, 3, none⟩ (.int .i64 a)).setCell ⟨w.heap.size + 1, 4, none⟩ (.int .i64 b) = u4 at *
  clear rb4 fb4
  rcases xs with _ | ⟨m, xs⟩
  · refine (num_no p _ s4.dec).mono ?_
    rintro e w5 ⟨⟨u, pv, rfl⟩, hg5⟩
    exact ⟨rfl, .inr ⟨⟨_, _, rfl⟩, not_good (by simp), s4.grow.trans hg5⟩⟩
  refine (num_yes p m _ hx4 _ s4.dec).mono ?_
  rintro e w5 ⟨rfl, hd5, hg5⟩
  have hx5 : By xs := By.tail hx4
  have t5 := s4.next hp hd5 hg5
  have rb5 := t5.box.rule
  have fb5 := fun i => t5.box.frozen i
  clear s4 hd5 hg5
  have s5 := t5
  clear t5
  have hm := hx4 m (by simp)
  obtain ⟨hm0, hm1⟩ := hm
  obtain ⟨i0, hi0, hz0, hz1, hz2⟩ := info_parts infoV2
  have HXS := Lib.hid hx5; clear hx5 hx4 hx3 hx2 hx1 hx
  have HL : Hid (xs.length ≤ 1048576) := by show _ ≤ _; simp at hl; omega
  clear hl
  go_wp2
  go_loopw [18] (fun i wr => ∃ (j : Nat) (ov : Value) (zs : List (Int × Int)) (rs : List Int), i = .int .i64 (j : Int) ∧ Hid (zs.length = j) ∧ (j : Int) ≤ m ∧ Hid (xs = flat zs ++ rs) ∧ Rg w wr p #[.int .i64 k, .int .i64 v, .int .i64 x, .int .i64 a, .int .i64 b, ov] rs ∧ wr.ownsRow (w.heap.size + 1 + 1) 24 2 ov j (vcells zs)) (fun i _ => m.toNat - (intOf i).toNat)
  case atStart => exact ⟨0, .slice none 0 0, [], xs, rfl, rfl, by omega, rfl, s5, World.ownsRow_nil _ _ _ _⟩
  case round =>
    clear s5 rb5 fb5
    obtain ⟨j, ov, zs, rs, rfl, hzl, hjm, hxr, hst, hown⟩ := hrel
    have hxs : By rs := By.rest (hxr.out ▸ HXS.out)
    have rb := hst.box.rule
    have fb := fun i => hst.box.frozen i
    have hbs := hst.box.lt
    have hpW : p < wr.heap.size := by omega
    by_cases hlt : (j : Int) < m
    · by_cases hr2 : rs.length < 2
      · have HNG : ¬ Good (k :: v :: x :: a :: b :: m :: xs) := fun ⟨k', v', x', a', b', us, e, _⟩ => by
          simp only [enc, List.cons.injEq] at e
          obtain ⟨_, _, _, _, _, e1, e2⟩ := e
          have := congrArg List.length e2
          rw [hxr.out, List.length_append, flat_len, flat_len, hzl.out] at this
          omega
        go_wp2_with fail
        have hvn : Calls Try.prog 81 #[.pointer (some ⟨p, 0, none⟩)] wr.drew fun e w1 => Pan e ∧ wr.drew.grownBy w1 (some p) := vote_no p _ hxs hr2 _ hst.dec.dr
        have HVN := Lib.hid hvn; clear hvn
        have HST := Lib.hid hst; clear hst
        refine wp_region_any (by kernel_rfl) ?_
        change wpAny _ _ _ _ _ _ _ (World.drew _)
        refine wpAny_take (i := 0) (v := ?v0) rfl (by kernel_rfl) (by kernel_rfl) (by kernel_rfl) (fun _ _ _ h => h) (Or.inl ⟨by rfl, ?h0⟩) ?r0
        case h0 => intro w; go_simp; try with_reducible rfl
        case r0 =>
          refine wpAny_take (i := 2) (v := ?v2) rfl (by kernel_rfl) (by kernel_rfl) (by kernel_rfl) (fun _ _ _ h => h) (Or.inl ⟨by rfl, ?h2⟩) ?r2
          case h2 => intro w; go_simp; try with_reducible rfl
          case r2 =>
            refine wpAny_ready (rs := [1, 3]) (by kernel_rfl) (by simp) ?_
            refine AllReady.cons rfl (fun K hK => ?_) (AllReady.cons rfl (fun K hK => ?_) AllReady.nil)
            · go_simp
              refine hK _ _ ?_
              clear hK K
              refine wpAny_ready (rs := [3]) (by kernel_rfl) (by simp) ?_
              refine AllReady.cons rfl (fun K hK => ?_) AllReady.nil
              go_simp
              go_at_call 81
              refine HVN.out.mono ?_
              rintro e w1 ⟨⟨u, pv, rfl⟩, hg1⟩
              exact ⟨rfl, .inr ⟨⟨_, _, rfl⟩, HNG, HST.out.grow.trans (grown_undrew hg1)⟩⟩
            · go_simp
              go_at_call 81
              refine HVN.out.mono ?_
              rintro e w1 ⟨⟨u, pv, rfl⟩, hg1⟩
              exact ⟨rfl, .inr ⟨⟨_, _, rfl⟩, HNG, HST.out.grow.trans (grown_undrew hg1)⟩⟩
      · match rs, hr2, hxs, hst, hxr with
        | [], hr2, _, _, _ => exact absurd (by simp) hr2
        | [_], hr2, _, _, _ => exact absurd (by simp) hr2
        | y0 :: y1 :: rs, hr2, hxs, hst, hxr =>
        clear hr2
        have HXR : Hid (xs = flat (zs ++ [(y0, y1)]) ++ rs) := by
          show _ = _
          rw [hxr.out, flat_append]
          simp [flat]
        have HYS : Hid (vcells zs ++ [.int .i64 y0, .int .i64 y1] = vcells (zs ++ [(y0, y1)])) := by
          show _ = _
          rw [vcells_append]; rfl
        have hjs : j < 256 := by omega
        go_wp2_with fail
        have hvy : Calls Try.prog 81 #[.pointer (some ⟨p, 0, none⟩)] wr.drew fun e w1 => e = .returned (.agg #[.int .i64 y0, .int .i64 y1]) ∧ Rg w w1 p #[.int .i64 k, .int .i64 v, .int .i64 x, .int .i64 a, .int .i64 b, ov] rs ∧ w1.ownsRow (w.heap.size + 1 + 1) 24 2 ov j (vcells zs) := by
          refine (vote_yes p y0 y1 _ hxs _ hst.dec.dr).mono ?_
          rintro e w1 ⟨rfl, hd1, hg1⟩
          exact ⟨rfl, hst.next hp hd1 (grown_undrew hg1), own_next hown (grown_undrew hg1) (by omega)⟩
        have HVY := Lib.hid hvy; clear hvy
        go_region_law (first
          | (go_simp; go_at_call 81; refine HVY.out.mono ?_; rintro e w1 ⟨rfl, st1, own1⟩; have rb1 := st1.box.rule; have fb1 := (fun i => st1.box.frozen i); have hbs1 := st1.box.lt; have rO1 := (fun (O : Obj) => (st1.box.alloc O).cell 5))
          | (refine step_append_lies _ (by rfl) (.tmp 21) (.tmp 24) 25 (by rfl) (w.heap.size + 1 + 1) 24 i0 _ 2 16 Try.underlying25 hi0 hz0 hz1 hz2 rfl (by omega) ov j (vcells zs) (by rfl) (own1.alloc _) ⟨w1.heap.size, 0, none⟩ 1 1 [.int .i64 y0, .int .i64 y1] (by rfl) (by rfl) (World.news_of_block (cs := #[.int .i64 y0, .int .i64 y1]) (t := 24) (fr := (0, 0)) (heap_alloc_new w1 _)) (by simp [Value.oneCell']) (by omega) (by simp only [maxLen]; omega) (by omega) (by simp; omega) (w1.heap.size + 1) (by simp) ?_; intro gg cap w2 hown2 hgrow hat hlt2; have st2 := st1.app hp hgrow (fun g e => by have := (own1.lt g e).1; omega); have rb2 := st2.box.rule; have fb2 := (fun i => st2.box.frozen i)))
        all_goals go_wp2
        all_goals go_roundw
        all_goals first
          | (refine ⟨j + 1, _, zs ++ [(y0, y1)], rs, by go_num, by show _ = _; have := hzl.out; simp; omega, by omega, HXR, st2.set hp 5 _, ?_⟩
             rw [← HYS.out]
             exact ownsRow_setCell_below hown2 (by simp) _)
          | (simp [intOf]; omega)
    · obtain rfl : m = (j : Int) := by omega
      have hg0 := hst.grow
      obtain ⟨A0, c0, hc0, hbp, hrp⟩ := hst.dec
      have rp := hbp.rule
      by_cases hre : rs.length = 0
      · rw [hre] at rp
        have HRE := Lib.hid hre; clear hre hrp hbp hc0
        go_wp2_with fail
        refine (demand_yes _).mono ?_
        rintro e w1 ⟨rfl, rfl⟩
        clear rp
        go_wp2_with fail
        obtain ⟨A6, c6, rfl⟩ := form_of hown
        obtain rfl : j = zs.length := hzl.out.symm
        have ho6 := OV.of_own hown
        have hzn : zs.length ≤ 1048576 := by omega
        have hbx : rs = [] := List.eq_nil_of_length_eq_zero HRE.out
        have hxe : Hid (k :: v :: x :: a :: b :: (zs.length : Int) :: xs = enc k v x a b zs) := by
          show _ = _
          rw [hxr.out, hbx, List.append_nil]; rfl
        have h1e := hst.box.lt
        obtain ⟨q, hq⟩ : ∃ q, msgOkB k v x a b zs = q := ⟨_, rfl⟩
        refine (implMsgOk_is q k v x a b A6 c6 zs hq _ ho6.rd hzn).mono ?_
        rintro e w2 ⟨rfl, hb2⟩
        have st2 := hst.same hp hb2
        have ho2 := ho6.on hb2
        have HQ := Lib.hid hq; clear hq hst hown hb2 ho6 rb fb hbs
        have rb2 := st2.box.rule
        have fb2 := fun i => st2.box.frozen i
        have rr2 := st2.res.rule
        have fr2 := fun i => st2.res.frozen i
        cases q
        · have HNG : ¬ Good (k :: v :: x :: a :: b :: (zs.length : Int) :: xs) := fun ⟨k', v', x', a', b', us, e, e'⟩ => by
            rw [hxe.out] at e
            simp only [enc, List.cons.injEq] at e
            obtain ⟨rfl, rfl, rfl, rfl, rfl, e1, e2⟩ := e
            rw [← flat_inj _ _ e2, HQ.out] at e'
            cases e'
          go_wp2_with fail
          refine (demand_no _).mono ?_
          rintro e w3 ⟨⟨u, pv, rfl⟩, rfl⟩
          exact ⟨rfl, .inr ⟨⟨_, _, rfl⟩, HNG, st2.grow⟩⟩
        · go_wp2_with fail
          refine (demand_yes _).mono ?_
          rintro e w3 ⟨rfl, rfl⟩
          go_wp2
          refine bodyPost_ret (v := .agg #[.int .i64 k, .int .i64 v, .int .i64 x, .int .i64 a, .int .i64 b, .slice A6 zs.length c6]) (by simp [results, Try.results66, go_sem, rr2]) rfl ?_
          refine .inl ⟨k, v, x, a, b, zs, A6, c6, hxe.out, HQ.out, rfl, ?_, ?_⟩
          · refine OV.more (b := w.heap.size + 1 + 1) ?_ (by omega)
            iterate 6 refine OV.set_ ?_ (by simp; omega) _
            exact ho2
          · iterate 6 refine grown_set ?_ (Nat.le_refl _) _
            exact st2.grow
      · have hre0 : ((rs.length : Int) == 0) = false := by simpa using hre
        have HNG : ¬ Good (k :: v :: x :: a :: b :: (j : Int) :: xs) := fun ⟨k', v', x', a', b', us, e, _⟩ => by
          simp only [enc, List.cons.injEq] at e
          obtain ⟨_, _, _, _, _, e1, e2⟩ := e
          have := congrArg List.length e2
          rw [hxr.out, List.length_append, flat_len, flat_len, hzl.out] at this
          omega
        go_wp2_with fail
        refine (demand_no _).mono ?_
        rintro e w1 ⟨⟨u, pv, rfl⟩, rfl⟩
        exact ⟨rfl, .inr ⟨⟨_, _, rfl⟩, HNG, hg0⟩⟩
end Go.Proofs.Ytaegcdbgnjlbdaa.V
