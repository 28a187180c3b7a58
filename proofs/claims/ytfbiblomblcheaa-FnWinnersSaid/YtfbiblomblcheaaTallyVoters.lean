/-
  Voters, ViewsIn and Silent of the model: contracts. No statement is proved here.
-/
import Derived.Test.YtfbiblomblcheaaTallyWin
import Derived.Deep.AppendLies
import Derived.Deep.RegionHeld3
set_option linter.unusedVariables false
set_option maxRecDepth 100000
namespace Go.Proofs.Ytfbiblomblcheaa.V
open Go.RowKit Go.Proofs.Ytfbiblomblcheaa.B

theorem infoI : (Try.prog.info? 3).map (fun i => (i.zero, i.size, i.bytes)) = some (some (.int .i64 0), 1, 8) := by kernel_rfl
def ic (xs : List Int) : List Value := xs.map (Value.int .i64)
theorem ic_len (xs : List Int) : (ic xs).length = xs.length := by simp [ic]
theorem ic_app (xs ys : List Int) : ic (xs ++ ys) = ic xs ++ ic ys := by simp [ic]
/-- The numbers of the call's own. -/
def NRes (xs : List Int) (w : World) (e : Ending) (w' : World) : Prop :=
  ∃ v, e = .returned v ∧ w'.ownsRow w.heap.size 3 1 v xs.length (ic xs) ∧ Below w.heap.size w w'
def votersL (vs : List B3) (view val : Int) : List Int := (vs.filter (isAt view val)).map (·.1)
def votersK (vs : List B3) (view val : Int) (k : Nat) : List Int := ((vs.take k).filter (isAt view val)).map (·.1)
theorem votersK_all (vs : List B3) (view val : Int) : votersK vs view val vs.length = votersL vs view val := by simp [votersK, votersL]
theorem votersK_step (vs : List B3) (view val : Int) (k : Nat) (h : k < vs.length) : votersK vs view val (k + 1) = votersK vs view val k ++ (if isAt view val (vs.getD k z3) then [(vs.getD k z3).1] else []) := by
  unfold votersK
  rw [take_get vs z3 k h, List.filter_append, List.map_append]
  congr 1
  rcases h1 : isAt view val (vs.getD k z3) with _ | _ <;> simp only [List.filter, h1] <;> rfl
theorem votersK_le (vs : List B3) (view val : Int) (k : Nat) : (votersK vs view val k).length ≤ k := by
  simp only [votersK, List.length_map]
  exact Nat.le_trans (List.length_filter_le _ _) (by simp; omega)
theorem own_app1 {w : World} {b e : Nat} {v : Value} {xs : List Int} {y : Int} (h : w.ownsRow b e 1 v (xs.length + 1) (ic xs ++ [.int .i64 y])) : w.ownsRow b e 1 v (xs ++ [y]).length (ic (xs ++ [y])) := by
  rw [ic_app, List.length_append]; exact h
theorem own_drew {w : World} {b e size n : Nat} {v : Value} {xs : List Value} (h : w.ownsRow b e size v n xs) : w.drew.ownsRow b e size v n xs := h
theorem reads_drew {w : World} {B size n : Nat} {A : Option Addr} {xs : List Value} (h : Reads w B size A n xs) : Reads w.drew B size A n xs := h
theorem own_lit (w : World) (u : Value) : (w.alloc (.cells #[u] 3)).ownsRow w.heap.size 3 1 (.slice (some ⟨w.heap.size, 0, none⟩) 1 1) 1 [u] :=
  ⟨rfl, .inr ⟨w.heap.size, 1, #[u], rfl, Nat.le_refl _, heap_alloc_new w _, Nat.le_refl _, by decide, rfl, rfl⟩⟩
theorem lit_int (w : World) (u : Value) : Reads (w.alloc (.cells #[u] 3)) (w.heap.size + 1) 1 (some ⟨w.heap.size, 0, none⟩) 1 [u] := by
  have h := Reads.of_own (own_lit w u)
  simpa using h
theorem own_more3 {w : World} {b b' e size n : Nat} {v : Value} {xs : List Value} (h : w.ownsRow b e size v n xs) (hb : b' ≤ b) : w.ownsRow b' e size v n xs := by
  obtain ⟨hl, h⟩ := h
  refine ⟨hl, ?_⟩
  rcases h with h1 | ⟨g, cap, cur, h1, h2, h3⟩
  · exact .inl h1
  · exact .inr ⟨g, cap, cur, h1, by omega, h3⟩

set_option maxHeartbeats 1600000 in
theorem specVoters_yes (view val : Int) (A : Option Addr) (c : Nat) (vs : List B3) (hq : tallyOkB vs = true) (w : World) (hr : Rd3 w w.heap.size A vs) (hn : vs.length ≤ 1048576) :
    Calls Try.prog 49 #[.agg #[.slice A vs.length c], .int .i64 view, .int .i64 val] w (NRes (votersL vs view val) w) := by
  obtain ⟨i0, hi0, hz0, hz1, hz2⟩ := info_parts infoI
  obtain ⟨n, hvn⟩ : ∃ n, vs.length = n := ⟨_, rfl⟩
  have hok := fun W h => specTallyOk_is true A c vs hq W h hn
  have hfin := votersK_all vs view val
  rw [hvn] at hfin
  rw [← hfin]
  clear hfin
  rw [hvn] at hn hok ⊢
  have HOK := Lib.hid hok; clear hok hq
  have HV := Lib.hid hvn; clear hvn
  have HB := Lib.hid (tally_box w A n c)
  have hr0 := hr.up (.cells #[.slice A n c] 29)
  have hs0 : (w.alloc (.cells #[.slice A n c] 29)).heap.size = w.heap.size + 1 := by simp
  have HR : Hid (∀ wr, Below (w.heap.size + 1) (w.alloc (.cells #[.slice A n c] 29)) wr → Rd3 wr w.heap.size A vs ∧ w.heap.size + 1 ≤ wr.heap.size) := fun wr h => ⟨hr.below (HB.out wr h).2, by have := h.size; omega⟩
  clear hs0 hr
  go_enter Try.func49, Try.ntmps49
  go_wp2_with fail
  refine (HOK.out _ hr0).mono ?_
  rintro e w1 ⟨rfl, hb1⟩
  have hbl1 : Below (w.heap.size + 1) (w.alloc (.cells #[.slice A n c] 29)) w1 := by simpa using hb1
  have rb1 := (HB.out w1 hbl1).1.rule
  clear hb1 hr0
  go_wp2
  go_loopw [7, 8] (fun out i wr => ∃ (k : Nat) (xs : List Int), k ≤ n ∧ i = .int .i64 k ∧ Hid (votersK vs view val k = xs) ∧ xs.length ≤ k ∧ wr.ownsRow (w.heap.size + 1) 3 1 out xs.length (ic xs) ∧ Below (w.heap.size + 1) (w.alloc (.cells #[.slice A n c] 29)) wr) (fun _ i _ => n - (intOf i).toNat)
  case atStart => exact ⟨0, [], Nat.zero_le _, rfl, rfl, Nat.le_refl _, World.ownsRow_nil _ _ _ _, hbl1⟩
  case round =>
    clear rb1 hbl1
    obtain ⟨k, xs, hk, rfl, hxs, hxl, hown, hbel⟩ := hrel
    obtain ⟨kb, hbw⟩ := HB.out wr hbel
    obtain ⟨hr1, hsz⟩ := HR.out wr hbel
    have rb := kb.rule
    by_cases hlt : k < n
    · obtain ⟨b, off, rfl, hb, hc0, hc1, hc2⟩ := Rd3.at_ hr1 (k := k) (by rw [HV.out]; omega)
      have hst := votersK_step vs view val k (by rw [HV.out]; exact hlt)
      rw [hxs.out] at hst
      obtain ⟨⟨ua, ub, uc⟩, hu⟩ : ∃ v, vs.getD k z3 = v := ⟨_, rfl⟩
      rw [hu] at hc0 hc1 hc2 hst
      clear hu hr1
      have HST := Lib.hid hst; clear hst
      by_cases h1 : ub = view
      · by_cases h2 : uc = val
        · have HN : Hid (votersK vs view val (k + 1) = xs ++ [ua]) := by show _ = _; rw [HST.out]; simp [isAt, h1, h2]
          subst h1 h2
          go_wp2_with (at_builtin; refine wpList_append_any _ rfl (.tmp 37) (.tmp 44) 55 rfl (w.heap.size + 1) 3 i0 _ 1 8 Try.underlying55 hi0 hz0 hz1 hz2 rfl (by omega) u7 xs.length (ic xs) rfl (hown.alloc _) _ _ 1 1 [.int .i64 ua] rfl (lit_int wr _) (by simp [Value.oneCell']) (by simp only [maxLen]; omega) (by omega) (by simp; omega) ?_; intro v2 w2 hown2 hgr2 hat2; have hbel2 := (hbel.alloc hsz _).grown hgr2 (by simp; omega) (fun j hj => (hown.lt j hj).1))
          go_roundw
          case rel => exact ⟨k + 1, xs ++ [ua], by omega, by go_num, HN, by simp; omega, own_app1 hown2, hbel2⟩
          case measure => simp [intOf]; omega
        · have hf : (uc == val) = false := by simpa using h2
          have HN : Hid (votersK vs view val (k + 1) = xs) := by show _ = _; rw [HST.out]; simp [isAt, h2]
          subst h1
          go_wp2
          go_roundw
          case rel => exact ⟨k + 1, xs, by omega, by go_num, HN, by omega, hown, hbel⟩
          case measure => simp [intOf]; omega
      · have hf : (ub == view) = false := by simpa using h1
        have HN : Hid (votersK vs view val (k + 1) = xs) := by show _ = _; rw [HST.out]; simp [isAt, h1]
        go_wp2
        go_roundw
        case rel => exact ⟨k + 1, xs, by omega, by go_num, HN, by omega, hown, hbel⟩
        case measure => simp [intOf]; omega
    · obtain rfl : k = n := by omega
      go_wp2
      go_ret
      refine ⟨_, rfl, ?_, hbw⟩
      rw [hxs.out]
      exact own_more3 hown (by omega)

theorem no_ints (w w' : World) (hB : Below w.heap.size w w') : NRes [] w (.returned (.slice none 0 0)) w' := ⟨_, rfl, World.ownsRow_nil _ _ _ _, hB⟩
def votersR (vs : List B3) (view val : Int) : List Int := if tallyOkB vs then votersL vs view val else []
theorem specVoters_any (view val : Int) (A : Option Addr) (c : Nat) (vs : List B3) (w : World) (hr : Rd3 w w.heap.size A vs) (hn : vs.length ≤ 1048576) :
    Calls Try.prog 49 #[.agg #[.slice A vs.length c], .int .i64 view, .int .i64 val] w (NRes (votersR vs view val) w) := by
  rcases hq : tallyOkB vs with _ | _
  · have e : votersR vs view val = [] := by simp [votersR, hq]
    rw [e]
    have hr0 := hr.up (.cells #[.slice A vs.length c] 29)
    have HR := Lib.hid hr0; clear hr0 hr
    have HQ := Lib.hid hq; clear hq e
    go_enter Try.func49, Try.ntmps49
    go_wp2_with fail
    refine (specTallyOk_is false A c vs HQ.out _ HR.out hn).mono ?_
    rintro e w1 ⟨rfl, hb1⟩
    have hB1 := on_ (up_ (Below.refl w.heap.size w) _) hb1
    clear hb1
    go_wp2
    go_ret
    exact no_ints _ _ hB1
  · have e : votersR vs view val = votersL vs view val := by simp [votersR, hq]
    rw [e]
    exact specVoters_yes view val A c vs hq w hr hn
end Go.Proofs.Ytfbiblomblcheaa.V
