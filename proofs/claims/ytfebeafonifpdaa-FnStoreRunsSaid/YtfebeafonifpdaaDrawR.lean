/-
  The model's draw of a store and a row of commands: contract. No statement is proved here.
-/
import Derived.Test.YtfebeafonifpdaaDraw8
import Derived.Test.YtfebeafonifpdaaStRp
set_option linter.unusedVariables false
set_option maxRecDepth 100000
namespace Go.Proofs.Ytfebeafonifpdaa.V
open Go.RowKit Go.Proofs.Ytfebeafonifpdaa.B
/-- A store and the values so far, on the way: the cursor, two boxes, the store's row, the values' own row. -/
def RS (w0 wr : World) (Bd p o r : Nat) (B : Option Addr) (d : Nat) (m : Int) (xs : List Int) (v : Value) (ls : List Int) : Prop :=
  Cur Bd wr p ∧ Blk wr o 36 #[.slice B xs.length d, .int .i64 m] ∧ Blk wr r 36 #[.slice none 0 0, .int .i64 0] ∧ RdI wr w0.heap.size B xs ∧ wr.ownsRow w0.heap.size 3 1 v ls.length (ic ls) ∧ w0.grownBy wr (some p)
section
variable {w0 wr w' : World} {Bd p o r d : Nat} {B : Option Addr} {xs ls : List Int} {m : Int} {v : Value}
theorem rd_blk9 {w w' : World} {Bd : Nat} (h : RdI w Bd B xs) (hk : ∀ b off, B = some ⟨b, off, none⟩ → b < Bd → w'.heap[b]? = w.heap[b]?) : RdI w' Bd B xs := fun hn => by
  obtain ⟨b, off, e, hb, hc⟩ := h hn
  exact ⟨b, off, e, hb, fun i hi => (World.cell?_of_block (a := ⟨b, off + i, none⟩) (hk b off e hb)).trans (hc i hi)⟩
theorem own_cur1 {n size base : Nat} {e : TypeId} {cs : List Value} (h : wr.ownsRow base e size v n cs) (hg : wr.grownBy w' (some p)) (hp : p < base) : w'.ownsRow base e size v n cs := by
  refine ⟨h.1, ?_⟩
  rcases h.2 with h1 | ⟨g, cap, cur, rfl, h2, h3, h4⟩
  · exact .inl h1
  · exact .inr ⟨g, cap, cur, rfl, h2, (hg.block g (Array.getElem?_eq_some_iff.1 h3).1 (fun e => by injection e with e; omega)).trans h3, h4⟩
theorem own_form9 {C : Option Addr} {d2 base : Nat} (h : wr.ownsRow base 3 1 v ls.length (ic ls)) (hv : v = .slice C ls.length d2) (hn : ls = [] → v = .slice none 0 0) : (ls = [] ∧ C = none ∧ d2 = 0) ∨ (0 < ls.length ∧ ∃ g, C = some ⟨g, 0, none⟩) := by
  rcases ls with _ | ⟨y, t⟩
  · have := hn rfl
    rw [hv] at this
    injection this with h1 _ h2
    exact .inl ⟨rfl, h1, h2⟩
  · refine .inr ⟨by simp, ?_⟩
    rcases h.2 with ⟨_, h1⟩ | ⟨g, cap, cur, h1, _⟩
    · simp at h1
    · rw [hv] at h1
      injection h1 with h1
      exact ⟨g, h1⟩
theorem RS.cur (h : RS w0 wr Bd p o r B d m xs v ls) (hp : p < w0.heap.size) (hop : o ≠ p) (hrp : r ≠ p) (hB : ∀ b off, B = some ⟨b, off, none⟩ → b ≠ p) (hc : Cur Bd w' p) (hg : wr.grownBy w' (some p)) : RS w0 w' Bd p o r B d m xs v ls :=
  ⟨hc, keepK h.2.1 hg (fun e => by injection e with e; exact hop e.symm), keepK h.2.2.1 hg (fun e => by injection e with e; exact hrp e.symm), rd_blk9 h.2.2.2.1 (fun b off e hb => hg.block b (by have := h.2.2.2.2.2.size; omega) (fun e2 => by injection e2 with e2; exact hB b off e e2)), own_cur1 h.2.2.2.2.1 hg hp, g7_two h.2.2.2.2.2 hg⟩
theorem RS.on (h : RS w0 wr Bd p o r B d m xs v ls) (hb : Below wr.heap.size wr w') : RS w0 w' Bd p o r B d m xs v ls :=
  ⟨cur_next h.1 hb, h.2.1.on hb, h.2.2.1.on hb, rd_blk9 h.2.2.2.1 (fun b off e hl => hb.block b (by have := h.2.2.2.2.2.size; omega)), own7 h.2.2.2.2.1 hb, g7_two h.2.2.2.2.2 (g7_of hb _)⟩
theorem RS.up (h : RS w0 wr Bd p o r B d m xs v ls) (O : Obj) : RS w0 (wr.alloc O) Bd p o r B d m xs v ls := h.on ((Below.refl _ _).alloc (Nat.le_refl _) O)
theorem RS.app (h : RS w0 wr Bd p o r B d m xs v ls) (hp : p < w0.heap.size) (ho : o < w0.heap.size) (hr : r < w0.heap.size) (hBd : Bd ≤ w0.heap.size) {v2 : Value} {y : Int} (hown : w'.ownsRow w0.heap.size 3 1 v2 (ls.length + 1) (ic ls ++ [.int .i64 y])) (hg : wr.grownBy w' v.ownBlock) : RS w0 w' Bd p o r B d m xs v2 (ls ++ [y]) := by
  have hlt := h.2.2.2.2.1.lt
  refine ⟨cur_keep h.1 hg (fun e => by have := (hlt _ e).1; omega) (fun j e => by have := (hlt _ e).1; omega), keepK h.2.1 hg (fun e => by have := (hlt _ e).1; omega), keepK h.2.2.1 hg (fun e => by have := (hlt _ e).1; omega), rd_blk9 h.2.2.2.1 (fun b off e hl => hg.block b (by have := h.2.2.2.2.2.size; omega) (fun e2 => by have := (hlt _ e2.symm).1; omega)), own_app1 hown, ?_⟩
  have h1 := h.2.2.2.2.2
  exact ⟨hg.os.trans h1.os, hg.tape.trans h1.tape, hg.output.trans h1.output, Nat.le_trans h1.size hg.size, fun i hi hne => (hg.block i (by have := h1.size; omega) (fun e => by have := (hlt _ e.symm).1; omega)).trans (h1.block i hi hne)⟩
end
set_option maxHeartbeats 3200000 in
theorem drawRun_any (A : Option Addr) (n c : Nat) (hm : n ≤ maxLen) (w : World) (hr : RdC w w.heap.size A n) :
    Calls Try.prog 30 #[.slice A n c] w fun e w' => ∃ (B C : Option Addr) (d d2 : Nat) (xs ls : List Int) (m : Int), e = .returned (.tuple #[.agg #[.slice B xs.length d, .int .i64 m], .slice C ls.length d2]) ∧ xs.length ≤ 4 ∧ ls.length ≤ 8 ∧ RdI w' w'.heap.size B xs ∧ RdI w' w'.heap.size C ls ∧ ls.length ≤ d2 ∧ ((ls = [] ∧ C = none ∧ d2 = 0) ∨ (0 < ls.length ∧ ∃ g, C = some ⟨g, 0, none⟩)) ∧ Below w.heap.size w w' := by
  obtain ⟨i0, hi0, hz0, hz1, hz2⟩ := info_parts infoI7
  have kr := Blk.new w 36 #[.slice none 0 0, .int .i64 0]
  have hb0 : Below w.heap.size w (w.alloc (.cells #[.slice none 0 0, .int .i64 0] 36)) := up_ (Below.refl _ _) _
  have hr0 : RdC (w.alloc (.cells #[.slice none 0 0, .int .i64 0] 36)) (w.alloc (.cells #[.slice none 0 0, .int .i64 0] 36)).heap.size A n := (hr.below hb0).more (by simp)
  go_enter Try.func30, Try.ntmps30
  go_wp2_with fail
  refine (new_any A n c hm _ hr0).mono ?_
  rintro e w1 ⟨p, rfl, hc1, hb1⟩
  have kr1 := kr.on hb1
  have hB1 := on_ hb0 hb1
  have hpz := cur_lt hc1
  simp only [World.size_alloc] at hpz hc1
  have hz1 := hb1.size
  simp only [World.size_alloc] at hz1
  clear hb1 hb0 kr hr0
  go_wp2_with fail
  refine (l7store_any (w.heap.size + 1) p w1 hc1 hz1).mono ?_
  rintro e w2 ⟨B, d, xs, m, rfl, hxl, hrd, hnew, hc2, hg2⟩
  have kr2 := keepK kr1 hg2 (fun e => by injection e with e; omega)
  have hB2 := hB1.trans (g7_below hg2 (Bd := w.heap.size) (by omega) (by omega))
  have hz2 := hg2.size
  have HNEW : Hid (∀ b off, B = some ⟨b, off, none⟩ → b ≠ p) := fun b off e => by have := hnew b off e; omega
  have HNEW9 : Hid (∀ b off, B = some ⟨b, off, none⟩ → w.heap.size < b) := fun b off e => by have := hnew b off e; omega
  have hs3 : RS (w2.alloc (.cells #[.slice B xs.length d, .int .i64 m] 36)) (w2.alloc (.cells #[.slice B xs.length d, .int .i64 m] 36)) (w.heap.size + 1) p w2.heap.size w.heap.size B d m xs (.slice none 0 0) [] :=
    ⟨cur_next hc2 ((Below.refl _ _).alloc (Nat.le_refl _) _), Blk.new _ _ _, kr2.alloc _, hrd.up _, World.ownsRow_nil _ _ _ _, ⟨rfl, rfl, rfl, Nat.le_refl _, fun _ _ _ => rfl⟩⟩
  have hB3 := up_ hB2 (.cells #[.slice B xs.length d, .int .i64 m] 36)
  have hz3 : (w2.alloc (.cells #[.slice B xs.length d, .int .i64 m] 36)).heap.size = w2.heap.size + 1 := World.size_alloc _ _
  clear hc2 hg2 kr2 kr1 hB1 hB2 hrd hnew hc1
  go_wp2_with fail
  generalize w2.alloc (.cells #[.slice B xs.length d, .int .i64 m] 36) = w3 at *
  have hp1 : p < w3.heap.size := by omega
  have hop : w2.heap.size ≠ p := by omega
  have hrp : w.heap.size ≠ p := by omega
  have ho3 : w2.heap.size < w3.heap.size := by omega
  have hr3 : w.heap.size < w3.heap.size := by omega
  have hBd : w.heap.size + 1 ≤ w3.heap.size := by omega
  have hBp : w.heap.size ≤ p := by omega
  obtain ⟨o, ho⟩ : ∃ o, w2.heap.size = o := ⟨_, rfl⟩
  rw [ho] at hs3 hop ho3 ⊢
  clear hz3 hz2 hz1 hpz ho
  refine (below_i (w.heap.size + 1) p 8 (by omega) (by omega) _ hs3.1).mono ?_
  rintro e w4 ⟨N, hN, rfl, hc4, hg4⟩
  have hs4 := hs3.cur hp1 hop hrp HNEW.out hc4 hg4
  clear hs3 hc4 hg4
  go_wp2
  go_loopw [6, 8] (fun v i wr => ∃ (j : Nat) (ls : List Int), j ≤ N ∧ i = .int .i64 j ∧ ls.length ≤ j ∧ (ls = [] → v = .slice none 0 0) ∧ Hid (RS w3 wr (w.heap.size + 1) p o w.heap.size B d m xs v ls)) (fun _ i _ => N - (intOf i).toNat)
  case atStart => exact ⟨0, [], Nat.zero_le _, rfl, Nat.le_refl _, fun _ => rfl, hs4⟩
  case round =>
    clear hs4
    obtain ⟨j, ls, hj, rfl, hll, hnl, hs⟩ := hrel
    have HNL := Lib.hid hnl; clear hnl
    have hwz := hs.out.2.2.2.2.2.size
    by_cases hlj : j < N
    · go_wp2_with fail
      refine (l7cmd_any (w.heap.size + 1) p wr hs.out.1 (by omega)).mono ?_
      rintro e w5 ⟨k1, y1, n1, _, _, _, _, _, _, _, rfl, hc5, hg5⟩
      have hs5 := Lib.hid (hs.out.cur hp1 hop hrp HNEW.out hc5 hg5)
      clear hs hc5 hg5
      go_wp2_with fail
      refine (specCmdVal_any k1 y1 n1 w5).mono ?_
      rintro e w6 ⟨rfl, hb6⟩
      have hs6 := Lib.hid (hs5.out.on hb6)
      have hw6 := hs6.out.2.2.2.2.2.size
      clear hs5 hb6
      obtain ⟨v1, hv1⟩ : ∃ v1, cmdV k1 y1 n1 = v1 := ⟨_, rfl⟩
      rw [hv1]
      clear hv1
      go_wp2_with fail
      refine (l7cmd_any (w.heap.size + 1) p w6 hs6.out.1 (by omega)).mono ?_
      rintro e w7 ⟨k2, y2, n2, _, _, _, _, _, _, _, rfl, hc7, hg7⟩
      have hs7 := Lib.hid (hs6.out.cur hp1 hop hrp HNEW.out hc7 hg7)
      clear hs6 hc7 hg7 hw6
      go_wp2_with fail
      refine (specCmdVal_any k2 y2 n2 w7).mono ?_
      rintro e w8 ⟨rfl, hb8⟩
      have hs8 := Lib.hid (hs7.out.on hb8)
      clear hs7 hb8
      obtain ⟨v2, hv2⟩ : ∃ v2, cmdV k2 y2 n2 = v2 := ⟨_, rfl⟩
      rw [hv2]
      clear hv2
      go_wp2_with fail
      refine (below_i (w.heap.size + 1) p 63 (by omega) (by omega) _ hs8.out.1).mono ?_
      rintro e w9 ⟨x, hx, rfl, hc9, hg9⟩
      have hs9' := Lib.hid ((hs8.out.cur hp1 hop hrp HNEW.out hc9 hg9).up (.cells #[.int .i64 (v1), .int .i64 (v2), .int .i64 (x)] 3))
      have hlit := Lib.hid (lit3 w9 v1 v2 x)
      have hpw : Hid (w9.heap.size ≠ p) := by have := (hs8.out.cur hp1 hop hrp HNEW.out hc9 hg9).2.2.2.2.2.size; show _ ≠ _; omega
      clear hs8 hc9 hg9
      go_wp2_with fail
      refine (pick_i (w.heap.size + 1) p w9.heap.size 3 _ [v1, v2, x] rfl (by omega) (by omega) _ hs9'.out.1 hlit.out hpw.out).mono ?_
      rintro e wa ⟨y, rfl, hca, hga⟩
      have hs9 := Lib.hid ((hs9'.out.cur hp1 hop hrp HNEW.out hca hga).up (.cells #[.int .i64 (y)] 3))
      have hza : w3.heap.size ≤ wa.heap.size := (hs9'.out.cur hp1 hop hrp HNEW.out hca hga).2.2.2.2.2.size
      have HLIT := Lib.hid (lit7 wa (.int .i64 y) wa.heap.size rfl)
      clear hs9' hlit hpw hca hga hx
      go_wp2_with (at_builtin; refine wpList_append_any _ rfl (.tmp 20) (.tmp 32) 34 rfl w3.heap.size 3 i0 _ 1 8 Try.underlying34 hi0 hz0 hz1 hz2 rfl (by omega) u6 ls.length (ic ls) rfl hs9.out.2.2.2.2.1 _ _ 1 1 [.int .i64 (y)] rfl HLIT.out (by simp [Value.oneCell']) (by simp only [maxLen]; omega) (by omega) (by simp; omega) ?_; intro v2' wz hown2 hgr2 hat2)
      go_roundw
      case rel => exact ⟨j + 1, ls ++ [y], by omega, by go_num, by simp; omega, (fun e => by simp at e), hs9.out.app hp1 ho3 hr3 hBd hown2 hgr2⟩
      case measure => simp [intOf]; omega
    · obtain ⟨C, d2, hv, hoC⟩ := ic_of_own hs.out.2.2.2.2.1
      have hcap : ls.length ≤ d2 := by
        have := hs.out.2.2.2.2.1
        rw [hv] at this
        exact cap7 this
      have hfm := Lib.hid (own_form9 hs.out.2.2.2.2.1 hv HNL.out)
      clear HNL
      have kr_ := hs.out.2.2.1
      have ko_ := hs.out.2.1
      have HV := Lib.hid hv; clear hv
      have ro_ := ko_.rule
      have rr9_0 := kr_.rule
      have fr9_0 := fun i => kr_.frozen i
      have kr9_1 : Blk (wr.setCell ⟨w.heap.size, 0, none⟩ (.slice B xs.length d)) (w.heap.size) 36 #[.slice B xs.length d, .int .i64 0] := kr_.set_ 0 _
      have rr9_1 := kr9_1.rule
      have fr9_1 := fun i => kr9_1.frozen i
      have kr9_2 : Blk ((wr.setCell ⟨w.heap.size, 0, none⟩ (.slice B xs.length d)).setCell ⟨w.heap.size, 1, none⟩ (.int .i64 m)) (w.heap.size) 36 #[.slice B xs.length d, .int .i64 m] := kr9_1.set_ 1 _
      have rr9_2 := kr9_2.rule
      have fr9_2 := fun i => kr9_2.frozen i
      go_wp2
      refine bodyPost_ret (v := .tuple #[.agg #[.slice B xs.length d, .int .i64 m], u6]) (by simp [results, Try.results30, go_sem, rr9_2]) rfl ⟨B, C, d, d2, xs, ls, m, by rw [HV.out], hxl, by omega, ?_, ?_, hcap, hfm.out, ?_⟩
      · have h1 : ∀ b off, B = some ⟨b, off, none⟩ → b ≠ w.heap.size := fun b off e => by have := HNEW9.out b off e; omega
        exact rd_far (rd_far (hs.out.2.2.2.1.more hwz) h1 _) h1 _
      · have h1 : ∀ b off, C = some ⟨b, off, none⟩ → b ≠ w.heap.size := fun b off e => by have := oi_new hoC b off e; omega
        exact rd_far (rd_far hoC.rd h1 _) h1 _
      · iterate 2 refine Below.setCell ?_ (by exact Nat.le_refl _) _
        exact hB3.trans (g7_below hs.out.2.2.2.2.2 hBp (by omega))
end Go.Proofs.Ytfebeafonifpdaa.V
