/-
  add and tally of the program: contracts. No statement is proved here.
-/
import Derived.Test.YtfebeafonifpdaaImplLook
import Derived.Test.YtfebeafonifpdaaTallyAdd3
import Derived.Below
set_option linter.unusedVariables false
set_option maxRecDepth 100000
namespace Go.Proofs.Ytfebeafonifpdaa.V
open Go.RowKit Go.Proofs.Ytfebeafonifpdaa.B

/-- What the map holds behind 'add'. -/
def putL (L : List B3) (u : B3) : List B3 := if foundQ L u.2.1 u.1 then L else L ++ [u]
theorem grown_of {w w' : World} (h : Below w.heap.size w w') (row : Option Nat) : w.grownBy w' row := ⟨h.os, h.tape, h.output, h.size, fun k hk _ => h.block k hk⟩
theorem grown_two {a b c : World} {row : Option Nat} (h : a.grownBy b row) (k : b.grownBy c row) : a.grownBy c row :=
  ⟨k.os.trans h.os, k.tape.trans h.tape, k.output.trans h.output, Nat.le_trans h.size k.size, fun i hi hne => (k.block i (Nat.lt_of_lt_of_le hi h.size) hne).trans (h.block i hi hne)⟩
set_option maxHeartbeats 3200000 in
theorem add_any (g : Nat) (L : List B3) (ua ub uc : Int) (hw1 : wfI ua) (hw2 : wfI ub) (hw3 : wfI uc) (hlk : L.length < maxLen) (w : World) (hbal : Bals w (.map (some g)) L) :
    Calls Try.prog 79 #[.map (some g), .agg #[.int .i64 ua, .int .i64 ub, .int .i64 uc]] w fun e w' => e = .returned (.bool (!foundQ L ub ua)) ∧ Bals w' (.map (some g)) (putL L (ua, ub, uc)) ∧ w.grownBy w' (some g) := by
  have kx : Blk (w.alloc (.cells #[.int .i64 ua, .int .i64 ub, .int .i64 uc] 54)) w.heap.size 54 #[.int .i64 ua, .int .i64 ub, .int .i64 uc] := Blk.new w _ _
  have hB0 : Below w.heap.size w (w.alloc (.cells #[.int .i64 ua, .int .i64 ub, .int .i64 uc] 54)) := (Below.refl _ _).alloc (Nat.le_refl _) _
  rcases hq : foundQ L ub ua with _ | _
  · have e : putL L (ua, ub, uc) = L ++ [(ua, ub, uc)] := by simp [putL, hq]
    rw [e]; clear e
    go_enter Try.func79, Try.ntmps79
    go_wp2_with (first | (go_at_call 97; refine (placeOf_any ua ub uc _).mono ?_; rintro e w1 ⟨rfl, hb1⟩; have kx1 := kx.on hb1; have rx1 := kx1.rule; have hbal1 := hbal.on (on_ hB0 hb1)) | (at_lookup; refine wpList_look_bals _ rfl _ _ rfl (.map (some g)) L rfl hbal1 ub ua rfl hw2 hw1 ?_; rw [hq]))
    have hB1 := on_ hB0 hb1
    clear hb1 kx
    refine wp_region_any (by kernel_rfl) ?_
    change wpAny _ _ _ _ _ _ _ (World.drew _)
    refine wpAny_take (i := 0) (v := ?v0) rfl (by kernel_rfl) (by kernel_rfl) (by kernel_rfl) (fun _ _ _ h => h) (Or.inl ⟨by rfl, ?h0⟩) ?r0
    case h0 => intro w; go_simp; try with_reducible rfl
    case r0 =>
      refine wpAny_take (i := 3) (v := ?v3) rfl (by kernel_rfl) (by kernel_rfl) (by kernel_rfl) (fun _ _ _ h => h) (Or.inl ⟨by rfl, ?h3⟩) ?r3
      case h3 => intro w; go_simp; try with_reducible rfl
      case r3 =>
        refine wpAny_ready (rs := [1, 4]) (by kernel_rfl) (by simp) ?_
        refine AllReady.cons rfl (fun K hK => ?_) (AllReady.cons rfl (fun K hK => ?_) AllReady.nil)
        · go_simp
          refine hK _ _ ?_
          clear hK K
          refine wpAny_ready (rs := [2, 4]) (by kernel_rfl) (by simp) ?_
          refine AllReady.cons rfl (fun K hK => ?_) (AllReady.cons rfl (fun K hK => ?_) AllReady.nil)
          · skip
            go_simp
            go_at_call 97
            refine (placeOf_any ua ub uc _).mono ?_
            rintro e w2 ⟨rfl, hb2⟩
            have kx2 := (kx1.drewN 1).on hb2
            have rx2 := kx2.rule
            refine hK _ _ ?_
            clear hK K
            refine wpAny_ready (rs := [4]) (by kernel_rfl) (by simp) ?_
            refine AllReady.cons rfl (fun K hK => ?_) AllReady.nil
            go_simp
            refine hK _ _ ?_
            clear hK K
            refine wpAny_ready (rs := [5]) (by kernel_rfl) (by simp) ?_
            refine AllReady.cons rfl (fun K hK => ?_) AllReady.nil
            refine step_store_bals rfl _ _ _ rfl g L (ua, ub, uc) rfl rfl rfl (hbal1.drew.on hb2) hlk hw1 hw2 hw3 hq ?_
            intro w3 hb3 hg3
            refine hK _ _ ?_
            clear hK K
            refine ⟨by kernel_rfl, ?_⟩
            go_wp2
            go_ret
            exact ⟨rfl, hb3, grown_two (grown_two (grown_of hB1.drew _) (grown_of (w := w1.drew) hb2 _)) hg3⟩
          · go_simp
            refine hK _ _ ?_
            clear hK K
            refine wpAny_ready (rs := [2]) (by kernel_rfl) (by simp) ?_
            refine AllReady.cons rfl (fun K hK => ?_) AllReady.nil
            go_simp
            go_at_call 97
            refine (placeOf_any ua ub uc _).mono ?_
            rintro e w2 ⟨rfl, hb2⟩
            have kx2 := (kx1.drewN 1).on hb2
            have rx2 := kx2.rule
            refine hK _ _ ?_
            clear hK K
            refine wpAny_ready (rs := [5]) (by kernel_rfl) (by simp) ?_
            refine AllReady.cons rfl (fun K hK => ?_) AllReady.nil
            refine step_store_bals rfl _ _ _ rfl g L (ua, ub, uc) rfl rfl rfl (hbal1.drew.on hb2) hlk hw1 hw2 hw3 hq ?_
            intro w3 hb3 hg3
            refine hK _ _ ?_
            clear hK K
            refine ⟨by kernel_rfl, ?_⟩
            go_wp2
            go_ret
            exact ⟨rfl, hb3, grown_two (grown_two (grown_of hB1.drew _) (grown_of (w := w1.drew) hb2 _)) hg3⟩
        · go_simp
          refine hK _ _ ?_
          clear hK K
          refine wpAny_ready (rs := [1]) (by kernel_rfl) (by simp) ?_
          refine AllReady.cons rfl (fun K hK => ?_) AllReady.nil
          go_simp
          refine hK _ _ ?_
          clear hK K
          refine wpAny_ready (rs := [2]) (by kernel_rfl) (by simp) ?_
          refine AllReady.cons rfl (fun K hK => ?_) AllReady.nil
          go_simp
          go_at_call 97
          refine (placeOf_any ua ub uc _).mono ?_
          rintro e w2 ⟨rfl, hb2⟩
          have kx2 := (kx1.drewN 1).on hb2
          have rx2 := kx2.rule
          refine hK _ _ ?_
          clear hK K
          refine wpAny_ready (rs := [5]) (by kernel_rfl) (by simp) ?_
          refine AllReady.cons rfl (fun K hK => ?_) AllReady.nil
          refine step_store_bals rfl _ _ _ rfl g L (ua, ub, uc) rfl rfl rfl (hbal1.drew.on hb2) hlk hw1 hw2 hw3 hq ?_
          intro w3 hb3 hg3
          refine hK _ _ ?_
          clear hK K
          refine ⟨by kernel_rfl, ?_⟩
          go_wp2
          go_ret
          exact ⟨rfl, hb3, grown_two (grown_two (grown_of hB1.drew _) (grown_of (w := w1.drew) hb2 _)) hg3⟩
  · have e : putL L (ua, ub, uc) = L := by simp [putL, hq]
    rw [e]; clear e
    go_enter Try.func79, Try.ntmps79
    go_wp2_with (first | (go_at_call 97; refine (placeOf_any ua ub uc _).mono ?_; rintro e w1 ⟨rfl, hb1⟩; have hbal1 := hbal.on (on_ hB0 hb1)) | (at_lookup; refine wpList_look_bals _ rfl _ _ rfl (.map (some g)) L rfl hbal1 ub ua rfl hw2 hw1 ?_; rw [hq]))
    go_ret
    exact ⟨rfl, hbal1, grown_of (on_ hB0 hb1) _⟩

def tabF (L : List B3) (v : Int) (j : Nat) : List B3 := ((List.range j).filter fun (i : Nat) => foundQ L v (i : Int)).map fun (i : Nat) => ((i : Int), v, foundV L v (i : Int))
def tabV (L : List B3) (k : Nat) : List B3 := (List.range k).flatMap fun (v : Nat) => tabF L (v : Int) 7
/-- The ballots that a map holds, place after place. -/
def tabL (L : List B3) : List B3 := tabV L 10
theorem tabF_step (L : List B3) (v : Int) (j : Nat) : tabF L v (j + 1) = tabF L v j ++ (if foundQ L v (j : Int) then [((j : Int), v, foundV L v (j : Int))] else []) := by
  unfold tabF
  rw [List.range_succ, List.filter_append, List.map_append]
  congr 1
  rcases h : foundQ L v (j : Int) with _ | _ <;> simp [List.filter, h]
theorem tabV_step (L : List B3) (k : Nat) : tabV L (k + 1) = tabV L k ++ tabF L (k : Int) 7 := by
  unfold tabV
  rw [List.range_succ, List.flatMap_append]
  simp
theorem tabF_len (L : List B3) (v : Int) (j : Nat) : (tabF L v j).length ≤ j := by
  unfold tabF
  rw [List.length_map]
  exact Nat.le_trans (List.length_filter_le _ _) (by simp)
theorem tabV_len (L : List B3) : ∀ k, (tabV L k).length ≤ 7 * k
  | 0 => by simp [tabV]
  | k + 1 => by
    rw [tabV_step, List.length_append]
    have := tabV_len L k
    have := tabF_len L (k : Int) 7
    omega
/-- On the way: the box of the new tally, the box of the answer, and the row. -/
def TSt (W : World) (s : Value) (xs : List B3) (wr : World) : Prop :=
  Blk wr (W.heap.size + 1) 96 #[s] ∧ Blk wr W.heap.size 96 #[.slice none 0 0] ∧ wr.ownsRow (W.heap.size + 2) 54 3 s xs.length (bcells xs) ∧ Below W.heap.size W wr ∧ W.heap.size + 2 ≤ wr.heap.size
theorem bc_app {w : World} {b e : Nat} {v : Value} {xs : List B3} {p q r : Int} (h : w.ownsRow b e 3 v (xs.length + 1) (bcells xs ++ [.int .i64 p, .int .i64 q, .int .i64 r])) : w.ownsRow b e 3 v (xs ++ [(p, q, r)]).length (bcells (xs ++ [(p, q, r)])) := by
  rw [bcells_append, List.length_append]; exact h
set_option maxHeartbeats 6400000 in
theorem tally_any (o : Option Nat) (L : List B3) (w : World) (hbal : Bals w (.map o) L) :
    Calls Try.prog 81 #[.map o] w fun e w' => ∃ B d, e = .returned (.agg #[.slice B (tabL L).length d]) ∧ OT w' 54 w.heap.size B (tabL L) ∧ Below w.heap.size w w' := by
  obtain ⟨i0, hi0, hz0, hz1, hz2⟩ := info_parts infoB4
  have st0 : TSt w (.slice none 0 0) [] ((w.alloc (.cells #[.slice none 0 0] 96)).alloc (.cells #[.slice none 0 0] 96)) :=
    ⟨by simpa using Blk.new (w.alloc (.cells #[.slice none 0 0] 96)) 96 #[.slice none 0 0], (Blk.new w _ _).alloc _, World.ownsRow_nil _ _ _ _, up_ (up_ (Below.refl _ _) _) _, by simp⟩
  have HST := Lib.hid st0; clear st0
  go_enter Try.func81, Try.ntmps81
  go_wp2
  go_loopw [8] (fun i wr => ∃ (k : Nat) (s : Value) (xs : List B3), k ≤ 10 ∧ i = .int .i64 k ∧ Hid (tabV L k = xs) ∧ xs.length ≤ 7 * k ∧ TSt w s xs wr) (fun i _ => 10 - (intOf i).toNat)
  case atStart => exact ⟨0, _, [], by omega, rfl, rfl, by simp, HST.out⟩
  case round =>
    obtain ⟨k, s, xs, hk, rfl, hxs, hxl, hst⟩ := hrel
    by_cases hlt : (k : Int) < 10
    · have hwk : wfI (k : Int) := wf_nat (by omega)
      have hV := tabV_step L k
      rw [hxs.out] at hV
      have HV := Lib.hid hV; clear hV hxs
      obtain ⟨wo, rfl⟩ : ∃ wo : World, wo = wr := ⟨_, rfl⟩
      go_wp2
      go_loopw [11] (fun i wr => ∃ (j : Nat) (s : Value) (ys : List B3), j ≤ 7 ∧ i = .int .i64 j ∧ Hid (xs ++ tabF L (k : Int) j = ys) ∧ ys.length ≤ 7 * k + j ∧ TSt w s ys wr) (fun i _ => 7 - (intOf i).toNat)
      case atStart => exact ⟨0, s, xs, by omega, rfl, by show _ = _; simp [tabF], by omega, hst⟩
      case round =>
        clear hst s
        obtain ⟨j, s, ys, hj, rfl, hys, hyl, hbx, hba, hown, hbel, hsz⟩ := hrel
        have hbr := hbal.on hbel
        have hF := tabF_step L (k : Int) j
        have hwj : wfI (j : Int) := wf_nat (by omega)
        by_cases hlj : (j : Int) < 7
        · rcases hq : foundQ L (k : Int) (j : Int) with _ | _
          · have HN : Hid (xs ++ tabF L (k : Int) (j + 1) = ys) := by show _ = _; rw [hF, hq]; simpa using hys.out
            clear hF
            go_wp2_with (first | (at_lookup; refine wpList_look_bals _ rfl _ _ rfl (.map o) L rfl hbr (k : Int) (j : Int) rfl hwk hwj ?_; rw [hq]) | go_in)
            go_roundw
            case rel => exact ⟨j + 1, s, ys, by omega, by go_num, HN, by omega, hbx, hba, hown, hbel, hsz⟩
            case measure => simp [intOf]; omega
          · obtain ⟨x, hx⟩ : ∃ x, foundV L (k : Int) (j : Int) = x := ⟨_, rfl⟩
            have HN : Hid (xs ++ tabF L (k : Int) (j + 1) = ys ++ [((j : Int), (k : Int), x)]) := by show _ = _; rw [hF, hq, hx, ← hys.out]; simp
            clear hF
            have rb := hbx.rule
            have hnb : s.ownBlock ≠ some (w.heap.size + 1) := fun e => by have := (hown.lt _ e).1; omega
            have hna : s.ownBlock ≠ some w.heap.size := fun e => by have := (hown.lt _ e).1; omega
            have rba := fun O : Obj => (hbx.alloc O).cell 0
            have rbf := fun O : Obj => (hbx.alloc O).frozen 0
            go_wp2_with (first | (at_lookup; refine wpList_look_bals _ rfl _ _ rfl (.map o) L rfl hbr (k : Int) (j : Int) rfl hwk hwj ?_; rw [hq, hx]) | (at_builtin; refine wpList_append_any _ rfl (.tmp 24) (.tmp 29) 48 rfl (w.heap.size + 2) 54 i0 _ 3 24 Try.underlying48 hi0 hz0 hz1 hz2 rfl (by omega) s ys.length (bcells ys) rfl (hown.alloc _) _ _ 1 1 [.int .i64 (j : Int), .int .i64 (k : Int), .int .i64 x] rfl (lit_ballot wr _ _ _) (by simp [Value.oneCell']) (by simp only [maxLen]; omega) (by omega) (by simp; omega) ?_; intro v2 w2 hown2 hgr2 hat2; obtain ⟨B2, d2, rfl⟩ := form1 hown2; have kr2 := keepK (hbx.alloc _) hgr2 hnb; have rr2 := kr2.rule; have fr2 := (fun i => kr2.frozen i)) | go_in)
            go_roundw
            case rel =>
              have hb2 : Below w.heap.size w w2 := (hbel.alloc (by omega) _).grown hgr2 (by simp; omega) (fun j hj => by have := (hown.lt j hj).1; omega)
              have hs2 := hgr2.size
              simp only [World.size_alloc] at hs2
              refine ⟨j + 1, .slice B2 (ys.length + 1) d2, ys ++ [((j : Int), (k : Int), x)], by omega, by go_num, HN, by simp; omega, kr2.set_ 0 _, (keepK (hba.alloc _) hgr2 hna).far (by simp) _, ?_, Below.setCell hb2 (by simp) _, by simp; omega⟩
              exact ownsRow_setCell_below (bc_app hown2) (by simp) _
            case measure => simp [intOf]; omega
        · obtain rfl : j = 7 := by omega
          go_wp2
          go_roundw
          case rel => exact ⟨k + 1, s, ys, by omega, by go_num, by show _ = _; rw [HV.out]; exact hys.out, by omega, hbx, hba, hown, hbel, hsz⟩
          case measure => simp [intOf]; omega
    · obtain rfl : k = 10 := by omega
      obtain ⟨hbx, hba, hown, hbel, hsz⟩ := hst
      have rb := hbx.rule
      have ra := hba.rule
      have fa := fun i => hba.frozen i
      obtain ⟨B, d, rfl⟩ := form1 hown
      have k3 := hba.set_ 0 (.slice B xs.length d)
      have r3 := k3.rule
      go_wp2
      refine bodyPost_ret (v := .agg #[.slice B xs.length d]) (by simp [results, Try.results81, go_sem, r3]) rfl ?_
      have he : tabL L = xs := hxs.out
      rw [he]
      exact ⟨B, ⟨d, rfl⟩, (OT.set_ (OT.of_own hown) (by simp) _).more (by omega), Below.setCell hbel (by simp) _⟩
end Go.Proofs.Ytfebeafonifpdaa.V
