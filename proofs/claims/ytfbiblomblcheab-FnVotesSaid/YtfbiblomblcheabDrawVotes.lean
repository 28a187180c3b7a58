/-
  The model's draw of votes: what it answers are some votes. No statement is proved here.
-/
import Derived.Test.YtfbiblomblcheabCode
import Derived.Test.YtfbiblomblcheabOwnV
set_option linter.unusedVariables false
set_option maxRecDepth 100000
namespace Go.Proofs.Ytfbiblomblcheab.V
open Go.RowKit Go.Proofs.Ytfbiblomblcheab.B

theorem infoVt : (Try.prog.info? 30).map (fun i => (i.zero, i.size, i.bytes)) = some (some (.agg #[.int .i64 0, .int .i64 0]), 2, 16) := by kernel_rfl
theorem lit_vote (w : World) (a b : Int) : Reads (w.alloc (.cells #[.int .i64 a, .int .i64 b] 30)) (w.heap.size + 1) 2 (some ⟨w.heap.size, 0, none⟩) 1 [.int .i64 a, .int .i64 b] :=
  ⟨rfl, fun _ => ⟨_, rfl, by simp, World.news_of_block (cs := #[.int .i64 a, .int .i64 b]) (heap_alloc_new w _)⟩⟩
theorem form2 {w : World} {base e size n : Nat} {v : Value} {xs : List Value} (h : w.ownsRow base e size v n xs) : ∃ A c, v = .slice A n c ∧ n ≤ c := by
  obtain ⟨_, ⟨rfl, rfl⟩ | ⟨g, cap, cur, rfl, _, _, h4, _⟩⟩ := h
  · exact ⟨_, _, rfl, Nat.le_refl _⟩
  · exact ⟨_, _, rfl, h4⟩
theorem votes_app {w : World} {b e : Nat} {v : Value} {us : List (Int × Int)} {p q : Int} (h : w.ownsRow b e 2 v (us.length + 1) (vcells us ++ [.int .i64 p, .int .i64 q])) : w.ownsRow b e 2 v (us ++ [(p, q)]).length (vcells (us ++ [(p, q)])) := by
  rw [vcells_append, List.length_append]; exact h
/-- Some votes of the call's own, the cursor moved on. -/
def DV (Bd p m : Nat) (w : World) (v : Value) (us : List (Int × Int)) (w' : World) : Prop :=
  w'.ownsRow w.heap.size 30 2 v us.length (vcells us) ∧ us.length ≤ m ∧ Cur Bd w' p ∧ w.grownBy w' (some p)
theorem dv_once {Bd p m : Nat} {w w1 w2 : World} {v : Value} {us : List (Int × Int)} (h : DV Bd p m w v us w1) (hp : p < w.heap.size) (hc : Cur Bd w2 p) (hg : w1.grownBy w2 (some p)) : DV Bd p m w v us w2 := by
  obtain ⟨h1, h2, h3, h4⟩ := h
  refine ⟨h1.kept hg (.inr fun e => ?_), h2, hc, h4.andThen hg (fun j hj => .inr hj)⟩
  have := (h1.lt p e).1
  omega
theorem dv_app {Bd p m : Nat} {w w1 w2 : World} {v v2 : Value} {us : List (Int × Int)} {a b : Int} {O : Obj} (h : DV Bd p m w v us w1) (hp : p < w.heap.size) (hB : Bd ≤ w.heap.size) (hown : w2.ownsRow w.heap.size 30 2 v2 (us.length + 1) (vcells us ++ [.int .i64 a, .int .i64 b])) (hg : (w1.alloc O).grownBy w2 v.ownBlock) : DV Bd p (m + 1) w v2 (us ++ [(a, b)]) w2 := by
  obtain ⟨h1, h2, h3, h4⟩ := h
  have hrow : ∀ j, v.ownBlock = some j → w.heap.size ≤ j := fun j hj => (h1.lt j hj).1
  refine ⟨votes_app hown, by simp; omega, cur_keep (cur_next h3 ((Below.refl _ _).alloc (Nat.le_refl _) O)) hg (fun e => by have := hrow p e; omega) (fun j hj => by have := hrow j hj; omega), ?_⟩
  exact (h4.andThen (World.grownBy_alloc w1 O none) (fun j hj => by cases hj)).andThen hg (fun j hj => .inl (hrow j hj))

set_option maxHeartbeats 3200000 in
theorem votes_any (Bd p n : Nat) (hn : n ≤ 200) (w : World) (hB : Bd ≤ w.heap.size) (h : Cur Bd w p) :
    Calls Try.prog 52 #[.pointer (some ⟨p, 0, none⟩), .int .i64 n] w fun e w' => ∃ v us, e = .returned v ∧ DV Bd p n w v us w' := by
  obtain ⟨i0, hi0, hz0, hz1, hz2⟩ := info_parts infoVt
  have hp := (cur_lt h).1
  go_enter Try.func52, Try.ntmps52
  go_wp2
  go_loopw [5, 6] (fun v i wr => ∃ (k : Nat) (us : List (Int × Int)), k ≤ n ∧ i = .int .i64 k ∧ DV Bd p k w v us wr) (fun _ i _ => n - (intOf i).toNat)
  case atStart => exact ⟨0, [], Nat.zero_le _, rfl, World.ownsRow_nil _ _ _ _, Nat.le_refl _, h, cgrown_same _ _⟩
  case round =>
    obtain ⟨k, us, hk, rfl, hdv⟩ := hrel
    by_cases hlt : k < n
    · have hc := hdv.2.2.1
      go_wp2_with fail
      refine (once_any Bd p 2 (by omega) (by omega) wr hc).mono ?_
      rintro e w1 ⟨q, rfl, hc1, hg1⟩
      have hd1 := dv_once hdv hp hc1 hg1
      rcases q with _ | _
      · go_wp2
        go_roundw
        case rel => exact ⟨k + 1, us, hlt, by go_num, hd1.1, by have := hd1.2.1; omega, hd1.2.2⟩
        case measure => simp [intOf]; omega
      · go_wp2_with fail
        refine (below_any Bd p 3 (by omega) (by omega) w1 hc1).mono ?_
        rintro e w2 ⟨x, hx, rfl, hc2, hg2⟩
        have hd2 := dv_once hd1 hp hc2 hg2
        obtain ⟨A, c, rfl, hcap⟩ := form2 hd2.1
        have hW : IntKind.i64.wrap (1 + (x : Int)) = 1 + (x : Int) := IntWalk.i64_in _ (by omega)
        have hsz := hd2.2.2.2.size
        have hul := hd2.2.1
        have hown2 := hd2.1
        go_wp2_with (at_builtin; refine wpList_append_any _ rfl (.tmp 14) (.tmp 20) 23 rfl w.heap.size 30 i0 _ 2 16 Try.underlying23 hi0 hz0 hz1 hz2 rfl (by omega) (.slice A us.length c) us.length (vcells us) rfl (hown2.alloc _) _ _ 1 1 [.int .i64 k, .int .i64 (1 + (x : Int))] rfl (lit_vote w2 _ _) (by simp [Value.oneCell']) (by simp only [maxLen]; omega) (by omega) (by simp; omega) ?_; intro v2 w3 hown3 hgr3 hat3; have hd3 := dv_app hd2 hp hB hown3 hgr3)
        go_roundw
        case rel => exact ⟨k + 1, _, hlt, by go_num, hd3⟩
        case measure => simp [intOf]; omega
    · obtain rfl : k = n := by omega
      go_wp2
      go_ret
      exact ⟨_, us, rfl, hdv⟩
set_option maxHeartbeats 3200000 in
theorem drawVotes_any (A : Option Addr) (n c : Nat) (hm : n ≤ maxLen) (w : World) (hr : RdC w w.heap.size A n) :
    Calls Try.prog 14 #[.slice A n c] w fun e w' => ∃ B d us, ∃ (m : Nat), e = .returned (.tuple #[.slice B us.length d, .int .i64 m]) ∧ us.length ≤ d ∧ us.length ≤ 10 ∧ m < 5 ∧ Rd w' w'.heap.size B us ∧ Below w.heap.size w w' := by
  obtain ⟨i0, hi0, hz0, hz1, hz2⟩ := info_parts infoVt
  go_enter Try.func14, Try.ntmps14
  go_wp2_with fail
  refine (new_any A n c hm w hr).mono ?_
  rintro e w1 ⟨p, rfl, hc, hb1⟩
  have hp1 := cur_lt hc
  go_wp2_with fail
  refine (below_any w.heap.size p 5 (by omega) (by omega) w1 hc).mono ?_
  rintro e w2 ⟨m, hm5, rfl, hc2, hg2⟩
  have hb2 : Below w.heap.size w w2 := hb1.grown hg2 hb1.size (fun j hj => by injection hj with hj; omega)
  have hp2 := cur_lt hc2
  go_wp2_with fail
  refine (votes_any w.heap.size p m (by omega) w2 hb2.size hc2).mono ?_
  rintro e w3 ⟨v, us, rfl, hd3⟩
  go_wp2_with fail
  refine (once_any w.heap.size p 4 (by omega) (by omega) w3 hd3.2.2.1).mono ?_
  rintro e w4 ⟨q, rfl, hc4, hg4⟩
  have hd4 := dv_once hd3 hp2.1 hc4 hg4
  have hfin : ∀ (k : Nat) (v : Value) (us : List (Int × Int)) (W : World), DV w.heap.size p k w2 v us W → k ≤ 10 → ∃ B d, v = .slice B us.length d ∧ us.length ≤ d ∧ us.length ≤ 10 ∧ Rd W W.heap.size B us ∧ Below w.heap.size w W := fun k v us W hd hk => by
    obtain ⟨B, d, rfl, hcap⟩ := form2 hd.1
    exact ⟨B, d, rfl, hcap, Nat.le_trans hd.2.1 hk, (OV.of_own hd.1).rd, hb2.grown hd.2.2.2 hb2.size (fun j hj => by injection hj with hj; omega)⟩
  have HFIN := Lib.hid hfin; clear hfin
  rcases q with _ | _
  · obtain ⟨B, d, rfl, h1, h2, h3, h4⟩ := HFIN.out _ _ _ _ hd4 (by omega)
    go_wp2
    refine bodyPost_ret (v := .tuple #[.slice B us.length d, .int .i64 m]) (by simp [results, Try.results14, go_sem]) rfl ?_
    exact ⟨B, d, us, m, rfl, h1, h2, hm5, h3, h4⟩
  · go_wp2_with fail
    refine (below_any w.heap.size p 6 (by omega) (by omega) w4 hc4).mono ?_
    rintro e w5 ⟨x, hx, rfl, hc5, hg5⟩
    have hd5 := dv_once hd4 hp2.1 hc5 hg5
    go_wp2_with fail
    refine (below_any w.heap.size p 3 (by omega) (by omega) w5 hc5).mono ?_
    rintro e w6 ⟨y, hy, rfl, hc6, hg6⟩
    have hd6 := dv_once hd5 hp2.1 hc6 hg6
    obtain ⟨B6, d6, rfl, hcap⟩ := form2 hd6.1
    have hW : IntKind.i64.wrap ((x : Int) - 1) = (x : Int) - 1 := IntWalk.i64_in _ (by omega)
    have hsz := hd6.2.2.2.size
    have hul := hd6.2.1
    have hown6 := hd6.1
    go_wp2_with (at_builtin; refine wpList_append_any _ rfl (.tmp 16) (.tmp 23) 23 rfl w2.heap.size 30 i0 _ 2 16 Try.underlying23 hi0 hz0 hz1 hz2 rfl (by omega) (.slice B6 us.length d6) us.length (vcells us) rfl (hown6.alloc _) _ _ 1 1 [.int .i64 ((x : Int) - 1), .int .i64 y] rfl (lit_vote w6 _ _) (by simp [Value.oneCell']) (by simp only [maxLen]; omega) (by omega) (by simp; omega) ?_; intro v2 w7 hown7 hgr7 hat7; have hd7 := dv_app hd6 hp2.1 hb2.size hown7 hgr7; obtain ⟨B, d, rfl, h1, h2, h3, h4⟩ := HFIN.out _ _ _ _ hd7 (by omega))
    refine bodyPost_ret (v := .tuple #[.slice B (us ++ [((x : Int) - 1, (y : Int))]).length d, .int .i64 m]) (by simp [results, Try.results14, go_sem]) rfl ?_
    exact ⟨B, d, _, m, rfl, h1, h2, hm5, h3, h4⟩
end Go.Proofs.Ytfbiblomblcheab.V
