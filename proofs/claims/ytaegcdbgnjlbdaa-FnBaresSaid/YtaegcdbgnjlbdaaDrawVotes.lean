/-
  The model's draw of votes: what it answers are some votes. No statement is proved here.
-/
import Derived.Test.YtaegcdbgnjlbdaaCode
import Derived.Test.YtaegcdbgnjlbdaaOwnV
set_option linter.unusedVariables false
set_option maxRecDepth 100000
namespace Go.Proofs.Ytaegcdbgnjlbdaa.V
open Go.RowKit Go.Proofs.Ytaegcdbgnjlbdaa.B

theorem infoVt : (Try.prog.info? 24).map (fun i => (i.zero, i.size, i.bytes)) = some (some (.agg #[.int .i64 0, .int .i64 0]), 2, 16) := by kernel_rfl
theorem lit_vote (w : World) (a b : Int) : Reads (w.alloc (.cells #[.int .i64 a, .int .i64 b] 24)) (w.heap.size + 1) 2 (some ⟨w.heap.size, 0, none⟩) 1 [.int .i64 a, .int .i64 b] :=
  ⟨rfl, fun _ => ⟨_, rfl, by simp, World.news_of_block (cs := #[.int .i64 a, .int .i64 b]) (heap_alloc_new w _)⟩⟩
theorem form2 {w : World} {base e size n : Nat} {v : Value} {xs : List Value} (h : w.ownsRow base e size v n xs) : ∃ A c, v = .slice A n c ∧ n ≤ c := by
  obtain ⟨_, ⟨rfl, rfl⟩ | ⟨g, cap, cur, rfl, _, _, h4, _⟩⟩ := h
  · exact ⟨_, _, rfl, Nat.le_refl _⟩
  · exact ⟨_, _, rfl, h4⟩
theorem votes_app {w : World} {b e : Nat} {v : Value} {us : List (Int × Int)} {p q : Int} (h : w.ownsRow b e 2 v (us.length + 1) (vcells us ++ [.int .i64 p, .int .i64 q])) : w.ownsRow b e 2 v (us ++ [(p, q)]).length (vcells (us ++ [(p, q)])) := by
  rw [vcells_append, List.length_append]; exact h
/-- Some votes of the call's own, the cursor moved on. -/
def DV (Bd p m : Nat) (w : World) (v : Value) (us : List (Int × Int)) (w' : World) : Prop :=
  w'.ownsRow w.heap.size 24 2 v us.length (vcells us) ∧ us.length ≤ m ∧ Cur Bd w' p ∧ w.grownBy w' (some p)
theorem dv_once {Bd p m : Nat} {w w1 w2 : World} {v : Value} {us : List (Int × Int)} (h : DV Bd p m w v us w1) (hp : p < w.heap.size) (hc : Cur Bd w2 p) (hg : w1.grownBy w2 (some p)) : DV Bd p m w v us w2 := by
  obtain ⟨h1, h2, h3, h4⟩ := h
  refine ⟨h1.kept hg (.inr fun e => ?_), h2, hc, h4.andThen hg (fun j hj => .inr hj)⟩
  have := (h1.lt p e).1
  omega
theorem dv_app {Bd p m : Nat} {w w1 w2 : World} {v v2 : Value} {us : List (Int × Int)} {a b : Int} {O : Obj} (h : DV Bd p m w v us w1) (hp : p < w.heap.size) (hB : Bd ≤ w.heap.size) (hown : w2.ownsRow w.heap.size 24 2 v2 (us.length + 1) (vcells us ++ [.int .i64 a, .int .i64 b])) (hg : (w1.alloc O).grownBy w2 v.ownBlock) : DV Bd p (m + 1) w v2 (us ++ [(a, b)]) w2 := by
  obtain ⟨h1, h2, h3, h4⟩ := h
  have hrow : ∀ j, v.ownBlock = some j → w.heap.size ≤ j := fun j hj => (h1.lt j hj).1
  refine ⟨votes_app hown, by simp; omega, cur_keep (cur_next h3 ((Below.refl _ _).alloc (Nat.le_refl _) O)) hg (fun e => by have := hrow p e; omega) (fun j hj => by have := hrow j hj; omega), ?_⟩
  exact (h4.andThen (World.grownBy_alloc w1 O none) (fun j hj => by cases hj)).andThen hg (fun j hj => .inl (hrow j hj))

set_option maxHeartbeats 3200000 in
theorem votes_any (Bd p n : Nat) (hn : n ≤ 200) (w : World) (hB : Bd ≤ w.heap.size) (h : Cur Bd w p) :
    Calls Try.prog 79 #[.pointer (some ⟨p, 0, none⟩), .int .i64 n] w fun e w' => ∃ v us, e = .returned v ∧ DV Bd p n w v us w' := by
  obtain ⟨i0, hi0, hz0, hz1, hz2⟩ := info_parts infoVt
  have hp := (cur_lt h).1
  go_enter Try.func79, Try.ntmps79
  go_wp2
  go_loopw [5, 6] (fun v i wr => ∃ (k : Nat) (us : List (Int × Int)), k ≤ n ∧ i = .int .i64 k ∧ DV Bd p k w v us wr) (fun _ i _ => n - (intOf i).toNat)
  case atStart => exact ⟨0, [], Nat.zero_le _, rfl, World.ownsRow_nil _ _ _ _, Nat.le_refl _, h, cgrown_same _ _⟩
  case round =>
    obtain ⟨k, us, hk, rfl, hdv⟩ := hrel
    by_cases hlt : k < n
    · have hc := hdv.2.2.1
      go_wp2_with fail
      refine (once_any Bd p 2 (by omega) (by omega) wr hc).mono ?_
      rintro e w1 ⟨q, rfl, hc1, hg1⟩
      have hd1 := dv_once hdv hp hc1 hg1
      rcases q with _ | _
      · go_wp2
        go_roundw
        case rel => exact ⟨k + 1, us, hlt, by go_num, hd1.1, by have := hd1.2.1; omega, hd1.2.2⟩
        case measure => simp [intOf]; omega
      · go_wp2_with fail
        refine (below_any Bd p 3 (by omega) (by omega) w1 hc1).mono ?_
        rintro e w2 ⟨x, hx, rfl, hc2, hg2⟩
        have hd2 := dv_once hd1 hp hc2 hg2
        obtain ⟨A, c, rfl, hcap⟩ := form2 hd2.1
        have hW : IntKind.i64.wrap (1 + (x : Int)) = 1 + (x : Int) := IntWalk.i64_in _ (by omega)
        have hsz := hd2.2.2.2.size
        have hul := hd2.2.1
        have hown2 := hd2.1
        go_wp2_with (at_builtin; refine wpList_append_any _ rfl (.tmp 14) (.tmp 20) 25 rfl w.heap.size 24 i0 _ 2 16 Try.underlying25 hi0 hz0 hz1 hz2 rfl (by omega) (.slice A us.length c) us.length (vcells us) rfl (hown2.alloc _) _ _ 1 1 [.int .i64 k, .int .i64 (1 + (x : Int))] rfl (lit_vote w2 _ _) (by simp [Value.oneCell']) (by simp only [maxLen]; omega) (by omega) (by simp; omega) ?_; intro v2 w3 hown3 hgr3 hat3; have hd3 := dv_app hd2 hp hB hown3 hgr3)
        go_roundw
        case rel => exact ⟨k + 1, _, hlt, by go_num, hd3⟩
        case measure => simp [intOf]; omega
    · obtain rfl : k = n := by omega
      go_wp2
      go_ret
      exact ⟨_, us, rfl, hdv⟩
end Go.Proofs.Ytaegcdbgnjlbdaa.V
