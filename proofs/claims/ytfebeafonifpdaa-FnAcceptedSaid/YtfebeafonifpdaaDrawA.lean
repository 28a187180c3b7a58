/-
  The model's draw of replies: contract. No statement is proved here.
-/
import Derived.Test.YtfebeafonifpdaaDraw7
import Derived.Test.YtfebeafonifpdaaImplTab
set_option linter.unusedVariables false
set_option maxRecDepth 100000
namespace Go.Proofs.Ytfebeafonifpdaa.V
open Go.RowKit Go.Proofs.Ytfebeafonifpdaa.B
theorem lit7b (W : World) (a b x : Int) (g : Nat) (hg : W.heap.size = g) : Reads (W.alloc (.cells #[.int .i64 (a), .int .i64 (b), .int .i64 (x)] 54)) (g + 1) 3 (some ⟨g, 0, none⟩) 1 [.int .i64 a, .int .i64 b, .int .i64 x] := by subst hg; exact lit_ballot W a b x
/-- Replies on the way: the cursor, and the row. -/
def AS (w0 wr : World) (Bd base p : Nat) (v : Value) (xs : List B3) : Prop := Cur Bd wr p ∧ wr.ownsRow base 54 3 v xs.length (bcells xs) ∧ w0.grownBy wr (some p)
section
variable {w0 wr w' : World} {Bd base p : Nat} {v : Value} {xs : List B3}
theorem own_cur {n size : Nat} {e : TypeId} {cs : List Value} (h : wr.ownsRow base e size v n cs) (hg : wr.grownBy w' (some p)) (hp : p < base) : w'.ownsRow base e size v n cs := by
  refine ⟨h.1, ?_⟩
  rcases h.2 with h1 | ⟨g, cap, cur, rfl, h2, h3, h4⟩
  · exact .inl h1
  · exact .inr ⟨g, cap, cur, rfl, h2, (hg.block g (Array.getElem?_eq_some_iff.1 h3).1 (fun e => by injection e with e; omega)).trans h3, h4⟩
theorem AS.cur (h : AS w0 wr Bd base p v xs) (hp : p < base) (hc : Cur Bd w' p) (hg : wr.grownBy w' (some p)) : AS w0 w' Bd base p v xs := ⟨hc, own_cur h.2.1 hg hp, g7_two h.2.2 hg⟩
theorem AS.on (h : AS w0 wr Bd base p v xs) (hb : Below wr.heap.size wr w') : AS w0 w' Bd base p v xs := ⟨cur_next h.1 hb, own7 h.2.1 hb, g7_two h.2.2 (g7_of hb _)⟩
theorem AS.up (h : AS w0 wr Bd base p v xs) (O : Obj) : AS w0 (wr.alloc O) Bd base p v xs := h.on ((Below.refl _ _).alloc (Nat.le_refl _) O)
theorem AS.app (h : AS w0 wr Bd base p v xs) (hp : p < base) (hBd : Bd ≤ base) (h0 : w0.heap.size ≤ base) {v2 : Value} {a b x : Int} (ho : w'.ownsRow base 54 3 v2 (xs.length + 1) (bcells xs ++ [.int .i64 a, .int .i64 b, .int .i64 x])) (hg : wr.grownBy w' v.ownBlock) : AS w0 w' Bd base p v2 (xs ++ [(a, b, x)]) := by
  refine ⟨cur_keep h.1 hg (fun e => by have := (h.2.1.lt _ e).1; omega) (fun j e => by have := (h.2.1.lt _ e).1; omega), bc_app ho, ?_⟩
  have h1 := h.2.2
  exact ⟨hg.os.trans h1.os, hg.tape.trans h1.tape, hg.output.trans h1.output, Nat.le_trans h1.size hg.size, fun i hi hne => (hg.block i (by have := h1.size; omega) (fun e => by have := (h.2.1.lt _ e.symm).1; omega)).trans (h1.block i hi hne)⟩
theorem AS.rd (h : AS w0 wr Bd base p v xs) : ∃ A d, v = .slice A xs.length d ∧ Rd3 wr wr.heap.size A xs := by
  obtain ⟨A, d, rfl⟩ := form7 h.2.1
  exact ⟨A, d, rfl, (OT.of_own h.2.1).rd⟩
end
set_option maxHeartbeats 3200000 in
theorem drawAcc_any (A : Option Addr) (n c : Nat) (hm : n ≤ maxLen) (w : World) (hr : RdC w w.heap.size A n) :
    Calls Try.prog 33 #[.slice A n c] w fun e w' => ∃ (k seq : Int) (B : Option Addr) (d : Nat) (rs : List B3), e = .returned (.tuple #[.int .i64 k, .slice B rs.length d, .int .i64 seq]) ∧ rs.length ≤ 10 ∧ Rd3 w' w'.heap.size B rs ∧ Below w.heap.size w w' := by
  obtain ⟨i0, hi0, hz0, hz1, hz2⟩ := info_parts infoB4
  go_enter Try.func33, Try.ntmps33
  go_wp2_with fail
  refine (new_any A n c hm w hr).mono ?_
  rintro e w1 ⟨p, rfl, hc1, hb1⟩
  obtain ⟨hp1, hp0⟩ := cur_lt hc1
  have hz1' := hb1.size
  have hc2 := cur_next hc1 ((Below.refl _ _).alloc (Nat.le_refl _) (.cells #[.int .i64 4, .int .i64 7, .int .i64 5] 3))
  have hg2 : w1.grownBy (w1.alloc (.cells #[.int .i64 4, .int .i64 7, .int .i64 5] 3)) (some p) := g7_up (g7_of (Below.refl _ _) _) _
  have hlit := lit3 w1 4 7 5
  clear hc1
  go_wp2_with fail
  generalize w1.alloc (.cells #[.int .i64 4, .int .i64 7, .int .i64 5] 3) = w2 at *
  refine (pick_i w.heap.size p w1.heap.size 3 _ [4, 7, 5] rfl (by omega) (by omega) w2 hc2 hlit (by omega)).mono ?_
  rintro e w3 ⟨k, rfl, hc3, hg3⟩
  have hg3 := g7_two hg2 hg3
  clear hc2 hg2 hlit
  go_wp2_with fail
  refine (below_i w.heap.size p 9 (by omega) (by omega) w3 hc3).mono ?_
  rintro e w4 ⟨N, hN, rfl, hc4, hg4⟩
  have hs4 : AS w1 w4 w.heap.size w1.heap.size p (.slice none 0 0) [] := ⟨hc4, World.ownsRow_nil _ _ _ _, g7_two hg3 hg4⟩
  clear hc3 hg3 hc4 hg4
  go_wp2
  go_loopw [7, 9] (fun v i wr => ∃ (j : Nat) (xs : List B3), j ≤ N ∧ i = .int .i64 j ∧ xs.length ≤ j ∧ Hid (AS w1 wr w.heap.size w1.heap.size p v xs)) (fun _ i _ => N - (intOf i).toNat)
  case atStart => exact ⟨0, [], Nat.zero_le _, rfl, Nat.le_refl _, hs4⟩
  case round =>
    clear hs4
    obtain ⟨j, xs, hj, rfl, hxl, hs⟩ := hrel
    have hwz := hs.out.2.2.size
    by_cases hlj : j < N
    · go_wp2_with fail
      refine (below_i w.heap.size p 4 (by omega) (by omega) wr hs.out.1).mono ?_
      rintro e w5 ⟨a, ha, rfl, hc5, hg5⟩
      have hs5 := Lib.hid (hs.out.cur hp1 hc5 hg5)
      clear hs hc5 hg5
      go_wp2_with fail
      refine (below_i w.heap.size p 2 (by omega) (by omega) w5 hs5.out.1).mono ?_
      rintro e w6 ⟨b, hb, rfl, hc6, hg6⟩
      have hs6 := Lib.hid (hs5.out.cur hp1 hc6 hg6)
      clear hs5 hc6 hg6
      go_wp2_with fail
      refine (below_i w.heap.size p 2 (by omega) (by omega) w6 hs6.out.1).mono ?_
      rintro e w7 ⟨x, hx, rfl, hc7, hg7⟩
      have hs7 := Lib.hid ((hs6.out.cur hp1 hc7 hg7).up (.cells #[.int .i64 (a), .int .i64 (b), .int .i64 (1 + x)] 54))
      have hz7 : w1.heap.size ≤ w7.heap.size := (hs6.out.cur hp1 hc7 hg7).2.2.size
      have HLIT := Lib.hid (lit7b w7 a b (1 + x) w7.heap.size rfl)
      clear hs6 hc7 hg7
      have hW : IntKind.i64.wrap (1 + (x : Int)) = 1 + (x : Int) := IntWalk.i64_in _ (by omega)
      go_wp2_with (at_builtin; refine wpList_append_any _ rfl (.tmp 22) (.tmp 31) 48 rfl w1.heap.size 54 i0 _ 3 24 Try.underlying48 hi0 hz0 hz1 hz2 rfl (by omega) u7 xs.length (bcells xs) rfl hs7.out.2.1 _ _ 1 1 [.int .i64 (a), .int .i64 (b), .int .i64 (1 + x)] rfl HLIT.out (by simp [Value.oneCell']) (by simp only [maxLen]; omega) (by omega) (by simp; omega) ?_; intro v2 w9 hown2 hgr2 hat2)
      go_roundw
      case rel => exact ⟨j + 1, xs ++ [((a : Int), (b : Int), 1 + (x : Int))], by omega, by go_num, by simp; omega, hs7.out.app hp1 hz1' (Nat.le_refl _) hown2 hgr2⟩
      case measure => simp [intOf]; omega
    · go_wp2_with fail
      refine (once_any w.heap.size p 12 (by omega) (by omega) wr hs.out.1).mono ?_
      rintro e w5 ⟨q, rfl, hc5, hg5⟩
      have hs5 := Lib.hid (hs.out.cur hp1 hc5 hg5)
      clear hs hc5 hg5
      cases q
      · go_wp2_with fail
        refine (below_i w.heap.size p 3 (by omega) (by omega) w5 hs5.out.1).mono ?_
        rintro e w6 ⟨s, hs, rfl, hc6, hg6⟩
        have hs6 := Lib.hid (hs5.out.cur hp1 hc6 hg6)
        obtain ⟨B, d, hv, hrd⟩ := hs6.out.rd
        have HV := Lib.hid hv; clear hv
        go_wp2
        refine bodyPost_ret (v := .tuple #[.int .i64 k, u7, .int .i64 s]) (by simp [results, Try.results33, go_sem]) rfl ⟨k, s, B, d, xs, by rw [HV.out], by omega, hrd, ?_⟩
        exact hb1.trans (g7_below hs6.out.2.2 hp0 hz1')
      · have hsL := Lib.hid (hs5.out.up (.cells #[.int .i64 (-1), .int .i64 6, .int .i64 7] 3))
        have hlit := Lib.hid (lit3 w5 (-1) 6 7)
        have hpw : Hid (w5.heap.size ≠ p) := by have := hs5.out.2.2.size; show _ ≠ _; omega
        clear hs5
        go_wp2_with fail
        refine (pick_i w.heap.size p w5.heap.size 3 _ [-1, 6, 7] rfl (by omega) (by omega) _ hsL.out.1 hlit.out hpw.out).mono ?_
        rintro e w6 ⟨y, rfl, hc6, hg6⟩
        have hs6 := Lib.hid ((hsL.out.cur hp1 hc6 hg6).up (.cells #[.int .i64 (y), .int .i64 (0), .int .i64 (1)] 54))
        have hz6 : w1.heap.size ≤ w6.heap.size := (hsL.out.cur hp1 hc6 hg6).2.2.size
        have HLIT := Lib.hid (lit7b w6 y 0 1 w6.heap.size rfl)
        clear hsL hlit hpw hc6 hg6
        go_wp2_with (first | at_builtin; refine wpList_append_any _ rfl (.tmp 35) (.tmp 40) 48 rfl w1.heap.size 54 i0 _ 3 24 Try.underlying48 hi0 hz0 hz1 hz2 rfl (by omega) u7 xs.length (bcells xs) rfl hs6.out.2.1 _ _ 1 1 [.int .i64 (y), .int .i64 (0), .int .i64 (1)] rfl HLIT.out (by simp [Value.oneCell']) (by simp only [maxLen]; omega) (by omega) (by simp; omega) ?_; intro v2 w9 hown2 hgr2 hat2 | fail)
        have hs9 := Lib.hid (hs6.out.app hp1 hz1' (Nat.le_refl _) hown2 hgr2)
        clear hs6 hown2 hgr2 hat2 HLIT
        refine (below_i w.heap.size p 3 (by omega) (by omega) w9 hs9.out.1).mono ?_
        rintro e wa ⟨s, hs, rfl, hca, hga⟩
        have hsa := Lib.hid (hs9.out.cur hp1 hca hga)
        obtain ⟨B, d, hv, hrd⟩ := hsa.out.rd
        have HV := Lib.hid hv; clear hv
        go_wp2
        refine bodyPost_ret (v := .tuple #[.int .i64 k, v2, .int .i64 s]) (by simp [results, Try.results33, go_sem]) rfl ⟨k, s, B, d, _, by rw [HV.out], by simp; omega, hrd, ?_⟩
        exact hb1.trans (g7_below hsa.out.2.2 hp0 hz1')
end Go.Proofs.Ytfebeafonifpdaa.V
