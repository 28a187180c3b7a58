/-
  Told, Voters, Count, silent and Silent of the program: contracts. No statement is proved here.
-/
import Derived.Test.YtaegcdbgnjlbdaaBallots
import Derived.Test.YtaegcdbgnjlbdaaImplSmall
import Derived.Test.YtaegcdbgnjlbdaaOwnI
set_option linter.unusedVariables false
set_option maxRecDepth 100000
namespace Go.Proofs.Ytaegcdbgnjlbdaa.V
open Go.RowKit Go.Proofs.Ytaegcdbgnjlbdaa.B

theorem eq_sorted {α : Type} {r : α → α → Prop} (irr : ∀ a, ¬ r a a) (tr : ∀ a b c, r a b → r b c → r a c) : ∀ l1 l2 : List α, l1.Pairwise r → l2.Pairwise r → (∀ x, x ∈ l1 ↔ x ∈ l2) → l1 = l2
  | [], [], _, _, _ => rfl
  | [], b :: l2, _, _, h => by have := (h b).2 (by simp); simp at this
  | a :: l1, [], _, _, h => by have := (h a).1 (by simp); simp at this
  | a :: l1, b :: l2, h1, h2, h => by
    obtain ⟨a1, a2⟩ := List.pairwise_cons.1 h1
    obtain ⟨b1, b2⟩ := List.pairwise_cons.1 h2
    have hab : a = b := by
      rcases List.mem_cons.1 ((h a).1 (by simp)) with e | e
      · exact e
      · rcases List.mem_cons.1 ((h b).2 (by simp)) with e' | e'
        · exact e'.symm
        · exact absurd (tr _ _ _ (a1 b e') (b1 a e)) (irr a)
    subst hab
    refine congrArg (a :: ·) (eq_sorted irr tr l1 l2 a2 b2 fun x => ⟨fun hx => ?_, fun hx => ?_⟩)
    · rcases List.mem_cons.1 ((h x).1 (by simp [hx])) with e | e
      · subst e; exact absurd (a1 x hx) (irr x)
      · exact e
    · rcases List.mem_cons.1 ((h x).2 (by simp [hx])) with e | e
      · subst e; exact absurd (b1 x hx) (irr x)
      · exact e
theorem before_irr (u : B3) : ¬ before3 u u := by unfold before3; omega
theorem before_tr (a b c : B3) (h1 : before3 a b) (h2 : before3 b c) : before3 a c := by unfold before3 at *; omega
theorem getD_eq {vs : List B3} {i : Nat} (h : i < vs.length) : vs.getD i z3 = vs[i] := by simp [List.getD_eq_getElem?_getD, List.getElem?_eq_getElem h]
theorem pair_of {vs : List B3} (h : tallyOkB vs = true) : vs.Pairwise before3 := by
  rw [List.pairwise_iff_getElem]
  intro i j hi hj hij
  have := sorted_of h i j hij hj
  rwa [getD_eq hi, getD_eq hj] at this
theorem mem_ok {vs : List B3} (h : tallyOkB vs = true) {u : B3} (hu : u ∈ vs) : b3Ok u = true := by
  obtain ⟨i, hi, rfl⟩ := List.mem_iff_getElem.1 hu
  have := ok_of h i hi
  rwa [getD_eq hi] at this
theorem one_place : ∀ {vs : List B3}, vs.Pairwise before3 → ∀ {u v : B3}, u ∈ vs → v ∈ vs → u.2.1 = v.2.1 → u.1 = v.1 → u = v
  | [], _, _, _, h, _, _, _ => by simp at h
  | a :: r, hp, u, v, hu, hv, e1, e2 => by
    obtain ⟨h1, h2⟩ := List.pairwise_cons.1 hp
    rcases List.mem_cons.1 hu with eu | hu' <;> rcases List.mem_cons.1 hv with ev | hv'
    · rw [eu, ev]
    · subst eu; have := h1 v hv'; unfold before3 at this; omega
    · subst ev; have := h1 u hu'; unfold before3 at this; omega
    · exact one_place h2 hu' hv' e1 e2
theorem found_iff {vs : List B3} (h : vs.Pairwise before3) {p q x : Int} : (foundQ vs p q = true ∧ foundV vs p q = x) ↔ (q, p, x) ∈ vs := by
  unfold foundQ foundV
  constructor
  · rintro ⟨h1, h2⟩
    obtain ⟨u, hu⟩ := Option.isSome_iff_exists.1 h1
    have hm := List.mem_of_find?_eq_some hu
    have hp := List.find?_some hu
    simp only [isOf, decide_eq_true_eq] at hp
    rw [hu] at h2
    simp only [Option.map_some, Option.getD_some] at h2
    obtain ⟨a, b, c⟩ := u
    simp only at hp h2
    obtain ⟨rfl, rfl⟩ := hp
    subst h2
    exact hm
  · intro hm
    rcases hf : List.find? (isOf p q) vs with _ | u
    · have := List.find?_eq_none.1 hf _ hm
      simp [isOf] at this
    · have hp := List.find?_some hf
      simp only [isOf, decide_eq_true_eq] at hp
      have := one_place h (List.mem_of_find?_eq_some hf) hm hp.1 hp.2
      subst this
      exact ⟨rfl, rfl⟩
theorem found_not {vs : List B3} {p q : Int} : foundQ vs p q = false ↔ ∀ x, (q, p, x) ∉ vs := by
  unfold foundQ
  rw [Option.isSome_eq_false_iff, Option.isNone_iff_eq_none, List.find?_eq_none]
  constructor
  · intro h x hx
    have := h _ hx
    simp [isOf] at this
  · intro h u hu hi
    simp only [isOf, decide_eq_true_eq] at hi
    obtain ⟨a, b, c⟩ := u
    obtain ⟨rfl, rfl⟩ := hi
    exact h c hu
theorem range_asc (n : Nat) (g : Nat → Bool) : (((List.range n).filter g).map (fun (i : Nat) => (i : Int))).Pairwise (· < ·) := by
  rw [List.pairwise_map]
  refine List.Pairwise.imp (R := (· < ·)) (fun h => by omega) ?_
  exact List.Pairwise.filter _ List.pairwise_lt_range
/-- All that voted for val, asked for one by one. -/
def votK (L : List B3) (view val : Int) (k : Nat) : List Int := ((List.range k).filter fun (i : Nat) => foundQ L view (i : Int) && decide (foundV L view (i : Int) = val)).map fun (i : Nat) => (i : Int)
theorem votK_step (L : List B3) (view val : Int) (k : Nat) : votK L view val (k + 1) = votK L view val k ++ (if foundQ L view (k : Int) && decide (foundV L view (k : Int) = val) then [(k : Int)] else []) := by
  unfold votK
  rw [List.range_succ, List.filter_append, List.map_append]
  congr 1
  rcases h : foundQ L view (k : Int) && decide (foundV L view (k : Int) = val) with _ | _ <;> simp [List.filter, h]
theorem votK_len (L : List B3) (view val : Int) (k : Nat) : (votK L view val k).length ≤ k := by
  unfold votK
  rw [List.length_map]
  exact Nat.le_trans (List.length_filter_le _ _) (by simp)
theorem votK_all (vs : List B3) (view val : Int) : votK (goodL vs) view val 7 = votersR vs view val := by
  unfold goodL votersR
  rcases hq : tallyOkB vs with _ | _
  · simp [votK, foundQ]
  · simp only [if_true]
    have hp := pair_of hq
    refine eq_sorted (r := (· < ·)) (fun a => by omega) (fun a b c => by omega) _ _ (range_asc _ _) ?_ fun x => ?_
    · unfold votersL
      rw [List.pairwise_map, List.pairwise_filter]
      refine hp.imp fun {a b} hab h1 h2 => ?_
      simp only [isAt, decide_eq_true_eq] at h1 h2
      unfold before3 at hab
      omega
    · simp only [votK, votersL, List.mem_map, List.mem_filter, List.mem_range, Bool.and_eq_true, decide_eq_true_eq]
      constructor
      · rintro ⟨i, ⟨hi, h1, h2⟩, rfl⟩
        have hm := (found_iff hp).1 ⟨h1, h2⟩
        exact ⟨_, ⟨hm, by simp [isAt]⟩, rfl⟩
      · rintro ⟨⟨a, b, c⟩, ⟨hm, h1⟩, rfl⟩
        simp only [isAt, decide_eq_true_eq] at h1
        obtain ⟨rfl, rfl⟩ := h1
        have hb := mem_ok hq hm
        simp [b3Ok] at hb
        obtain ⟨n, hn⟩ : ∃ n : Nat, a = n := ⟨a.toNat, by omega⟩
        subst hn
        exact ⟨n, ⟨by omega, (found_iff hp).2 hm⟩, rfl⟩
theorem toldV_is (vs : List B3) (view who : Int) : foundV (goodL vs) view who = toldR vs view who := by
  unfold goodL toldR
  split <;> simp [foundV]
theorem toldQ_is (vs : List B3) (view who : Int) : foundQ (goodL vs) view who = toldQ vs view who := by
  unfold goodL toldQ
  split <;> simp_all [foundQ]
theorem form1 {w : World} {base e size n : Nat} {v : Value} {xs : List Value} (h : w.ownsRow base e size v n xs) : ∃ A c, v = .slice A n c := by
  obtain ⟨_, ⟨rfl, rfl⟩ | ⟨g, cap, cur, rfl, _⟩⟩ := h
  · exact ⟨_, _, rfl⟩
  · exact ⟨_, _, rfl⟩
theorem wf_nat {k : Nat} (h : k ≤ 1000) : wfI (k : Int) := WalkArith.wf_i64 (by omega)

theorem implTold_any (view who : Int) (hv : wfI view) (hw : wfI who) (A : Option Addr) (c : Nat) (vs : List B3) (w : World) (hr : Rd3 w w.heap.size A vs) (hn : vs.length ≤ 1048576) :
    Calls Try.prog 24 #[.agg #[.slice A vs.length c], .int .i64 view, .int .i64 who] w fun e w' => e = .returned (.tuple #[.int .i64 (toldR vs view who), .bool (toldQ vs view who)]) ∧ Below w.heap.size w w' := by
  have hr0 := hr.up (.cells #[.slice A vs.length c] 44)
  rw [← toldV_is, ← toldQ_is]
  have HR := Lib.hid hr0; clear hr0 hr
  go_enter Try.func24, Try.ntmps24
  go_wp2_with fail
  refine (ballotsOf_any A c vs _ HR.out hn).mono ?_
  rintro e w1 ⟨o, rfl, hlo, hbal, hb1⟩
  have hB1 := on_ (up_ (Below.refl w.heap.size w) _) hb1
  clear hb1
  go_wp2_with (first | (at_lookup; refine wpList_look_bals _ rfl _ _ rfl (.map o) (goodL vs) rfl hbal view who rfl hv hw ?_) | go_in)
  refine bodyPost_ret (v := .tuple #[.int .i64 (foundV (goodL vs) view who), .bool (foundQ (goodL vs) view who)]) (by simp [results, Try.results24, go_sem]) rfl ?_
  exact ⟨rfl, hB1⟩

set_option maxHeartbeats 3200000 in
theorem implVoters_any (view val : Int) (hv : wfI view) (A : Option Addr) (c : Nat) (vs : List B3) (w : World) (hr : Rd3 w w.heap.size A vs) (hn : vs.length ≤ 1048576) :
    Calls Try.prog 22 #[.agg #[.slice A vs.length c], .int .i64 view, .int .i64 val] w (NRes (votersR vs view val) w) := by
  obtain ⟨i0, hi0, hz0, hz1, hz2⟩ := info_parts infoI
  have hr0 := hr.up (.cells #[.slice A vs.length c] 44)
  rw [← votK_all]
  have HR := Lib.hid hr0; clear hr0 hr
  go_enter Try.func22, Try.ntmps22
  go_wp2_with fail
  refine (ballotsOf_any A c vs _ HR.out hn).mono ?_
  rintro e w1 ⟨o, rfl, hlo, hbal, hb1⟩
  have hB1 := on_ (up_ (Below.refl w.heap.size w) _) hb1
  clear hb1 HR
  generalize goodL vs = L at *
  go_wp2
  go_loopw [9, 18] (fun out i wr => ∃ (k : Nat) (xs : List Int), k ≤ 7 ∧ i = .int .i64 k ∧ Hid (votK L view val k = xs) ∧ xs.length ≤ k ∧ wr.ownsRow w1.heap.size 3 1 out xs.length (ic xs) ∧ Below w1.heap.size w1 wr) (fun _ i _ => 7 - (intOf i).toNat)
  case atStart => exact ⟨0, [], by omega, rfl, rfl, Nat.le_refl _, World.ownsRow_nil _ _ _ _, Below.refl _ _⟩
  case round =>
    obtain ⟨k, xs, hk, rfl, hxs, hxl, hown, hbel⟩ := hrel
    have hbr := hbal.on hbel
    have hsz := hbel.size
    have hst := votK_step L view val k
    rw [hxs.out] at hst
    have HST := Lib.hid hst; clear hst
    have hwk : wfI (k : Int) := wf_nat (by omega)
    by_cases hlt : (k : Int) < 7
    · rcases hq : foundQ L view (k : Int) with _ | _
      · have HN : Hid (votK L view val (k + 1) = xs) := by show _ = _; rw [HST.out]; simp [hq]
        go_wp2_with (first | (at_lookup; refine wpList_look_bals _ rfl _ _ rfl (.map o) L rfl hbr view (k : Int) rfl hv hwk ?_; rw [hq]) | go_in)
        go_roundw
        case rel => exact ⟨k + 1, xs, by omega, by go_num, HN, by omega, hown, hbel⟩
        case measure => simp [intOf]; omega
      · by_cases h2 : foundV L view (k : Int) = val
        · have HN : Hid (votK L view val (k + 1) = xs ++ [(k : Int)]) := by show _ = _; rw [HST.out]; simp [hq, h2]
          go_wp2_with (first | (at_lookup; refine wpList_look_bals _ rfl _ _ rfl (.map o) L rfl hbr view (k : Int) rfl hv hwk ?_; rw [hq, h2]) | (at_builtin; refine wpList_append_any _ rfl (.tmp 35) (.tmp 37) 47 rfl w1.heap.size 3 i0 _ 1 8 Try.underlying47 hi0 hz0 hz1 hz2 rfl (by omega) u9 xs.length (ic xs) rfl (hown.alloc _) _ _ 1 1 [.int .i64 (k : Int)] rfl (lit_int wr _) (by simp [Value.oneCell']) (by simp only [maxLen]; omega) (by omega) (by simp; omega) ?_; intro v2 w2 hown2 hgr2 hat2; have hbel2 := (hbel.alloc hsz _).grown hgr2 (by simp; omega) (fun j hj => (hown.lt j hj).1)) | go_in)
          go_roundw
          case rel => exact ⟨k + 1, xs ++ [(k : Int)], by omega, by go_num, HN, by simp; omega, own_app1 hown2, hbel2⟩
          case measure => simp [intOf]; omega
        · have hf : (foundV L view (k : Int) == val) = false := by simpa using h2
          have HN : Hid (votK L view val (k + 1) = xs) := by show _ = _; rw [HST.out]; simp [h2]
          go_wp2_with (first | (at_lookup; refine wpList_look_bals _ rfl _ _ rfl (.map o) L rfl hbr view (k : Int) rfl hv hwk ?_; rw [hq]) | go_in)
          go_roundw
          case rel => exact ⟨k + 1, xs, by omega, by go_num, HN, by omega, hown, hbel⟩
          case measure => simp [intOf]; omega
    · obtain rfl : k = 7 := by omega
      go_wp2
      go_ret
      refine ⟨_, rfl, ?_, on_ hB1 hbel⟩
      rw [hxs.out]
      exact own_more3 hown hB1.size
theorem implCount_any (view val : Int) (hv : wfI view) (A : Option Addr) (c : Nat) (vs : List B3) (w : World) (hr : Rd3 w w.heap.size A vs) (hn : vs.length ≤ 1048576) :
    Calls Try.prog 23 #[.agg #[.slice A vs.length c], .int .i64 view, .int .i64 val] w fun e w' => e = .returned (.int .i64 (countR vs view val)) ∧ Below w.heap.size w w' := by
  have hr0 := hr.up (.cells #[.slice A vs.length c] 44)
  have hc : countR vs view val = ((votersR vs view val).length : Int) := by
    unfold countR votersR votersL cntB
    split <;> simp
  rw [hc]
  have HR := Lib.hid hr0; clear hr0 hr hc
  go_enter Try.func23, Try.ntmps23
  go_wp2_with fail
  refine (implVoters_any view val hv A c vs _ HR.out hn).mono ?_
  rintro e w1 ⟨v, rfl, hown, hb1⟩
  have hB1 := on_ (up_ (Below.refl w.heap.size w) _) hb1
  obtain ⟨A2, c2, rfl⟩ := form1 hown
  clear hb1 hown
  go_wp2
  go_ret
  exact ⟨rfl, hB1⟩

set_option maxHeartbeats 3200000 in
theorem silent_any (n : Nat) (hn7 : n ≤ 7) (view : Int) (hv : wfI view) (o : Option Nat) (L : List B3) (w : World) (hbal : Bals w (.map o) L) :
    Calls Try.prog 48 #[.map o, .int .i64 (n : Int), .int .i64 view] w (NRes (silentK L view n) w) := by
  obtain ⟨i0, hi0, hz0, hz1, hz2⟩ := info_parts infoI
  go_enter Try.func48, Try.ntmps48
  go_wp2
  go_loopw [7, 12] (fun out i wr => ∃ (k : Nat) (xs : List Int), k ≤ n ∧ i = .int .i64 k ∧ Hid (silentK L view k = xs) ∧ xs.length ≤ k ∧ wr.ownsRow w.heap.size 3 1 out xs.length (ic xs) ∧ Below w.heap.size w wr) (fun _ i _ => n - (intOf i).toNat)
  case atStart => exact ⟨0, [], by omega, rfl, rfl, Nat.le_refl _, World.ownsRow_nil _ _ _ _, Below.refl _ _⟩
  case round =>
    obtain ⟨k, xs, hk, rfl, hxs, hxl, hown, hbel⟩ := hrel
    have hbr := hbal.on hbel
    have hsz := hbel.size
    have hst := silentK_step L view k
    rw [hxs.out] at hst
    have HST := Lib.hid hst; clear hst
    have hwk : wfI (k : Int) := wf_nat (by omega)
    by_cases hlt : k < n
    · rcases hq : foundQ L view (k : Int) with _ | _
      · have HN : Hid (silentK L view (k + 1) = xs ++ [(k : Int)]) := by show _ = _; rw [HST.out]; simp [hq]
        go_wp2_with (first | (at_lookup; refine wpList_look_bals _ rfl _ _ rfl (.map o) L rfl hbr view (k : Int) rfl hv hwk ?_; rw [hq]) | (at_builtin; refine wpList_append_any _ rfl (.tmp 25) (.tmp 27) 47 rfl w.heap.size 3 i0 _ 1 8 Try.underlying47 hi0 hz0 hz1 hz2 rfl (by omega) u7 xs.length (ic xs) rfl (hown.alloc _) _ _ 1 1 [.int .i64 (k : Int)] rfl (lit_int wr _) (by simp [Value.oneCell']) (by simp only [maxLen]; omega) (by omega) (by simp; omega) ?_; intro v2 w2 hown2 hgr2 hat2; have hbel2 := (hbel.alloc hsz _).grown hgr2 (by simp; omega) (fun j hj => (hown.lt j hj).1)) | go_in)
        go_roundw
        case rel => exact ⟨k + 1, xs ++ [(k : Int)], by omega, by go_num, HN, by simp; omega, own_app1 hown2, hbel2⟩
        case measure => simp [intOf]; omega
      · have HN : Hid (silentK L view (k + 1) = xs) := by show _ = _; rw [HST.out]; simp [hq]
        go_wp2_with (first | (at_lookup; refine wpList_look_bals _ rfl _ _ rfl (.map o) L rfl hbr view (k : Int) rfl hv hwk ?_; rw [hq]) | go_in)
        go_roundw
        case rel => exact ⟨k + 1, xs, by omega, by go_num, HN, by omega, hown, hbel⟩
        case measure => simp [intOf]; omega
    · obtain rfl : k = n := by omega
      go_wp2
      go_ret
      exact ⟨_, rfl, by rw [hxs.out]; exact hown, hbel⟩
theorem implSilent_any (n view : Int) (hv : wfI view) (A : Option Addr) (c : Nat) (vs : List B3) (w : World) (hr : Rd3 w w.heap.size A vs) (hn : vs.length ≤ 1048576) :
    Calls Try.prog 18 #[.int .i64 n, .agg #[.slice A vs.length c], .int .i64 view] w (NRes (silentR n vs view) w) := by
  have hr0 := hr.up (.cells #[.slice A vs.length c] 44)
  have HR := Lib.hid hr0; clear hr0 hr
  rcases hs : sizeB n with _ | _
  · have e : silentR n vs view = [] := by simp [silentR, hs]
    rw [e]; clear e
    go_enter Try.func18, Try.ntmps18
    go_wp2_with fail
    refine (ballotsOf_any A c vs _ HR.out hn).mono ?_
    rintro e w1 ⟨o, rfl, hlo, hbal, hb1⟩
    have hB1 := on_ (up_ (Below.refl w.heap.size w) _) hb1
    clear hb1 HR
    go_wp2_with (go_at_call 47; refine (implSize_is n false hs _).mono ?_; rintro e w0 ⟨rfl, rfl⟩)
    go_ret
    exact no_ints _ _ hB1
  · rcases hq : tallyOkB vs with _ | _
    · have e : silentR n vs view = [] := by simp [silentR, hq]
      rw [e]; clear e
      go_enter Try.func18, Try.ntmps18
      go_wp2_with fail
      refine (ballotsOf_no A c vs hq _ HR.out hn).mono ?_
      rintro e w1 ⟨rfl, hb1⟩
      have hB1 := on_ (up_ (Below.refl w.heap.size w) _) hb1
      clear hb1 HR
      go_wp2_with (go_at_call 47; refine (implSize_is n true hs _).mono ?_; rintro e w0 ⟨rfl, rfl⟩)
      go_ret
      exact no_ints _ _ hB1
    · have e : silentR n vs view = silentK vs view n.toNat := by simp [silentR, hs, hq]
      rw [e]; clear e
      obtain ⟨m, hm, hm7⟩ : ∃ m : Nat, n = m ∧ m ≤ 7 := by
        rcases size_two hs with rfl | rfl
        · exact ⟨4, rfl, by omega⟩
        · exact ⟨7, rfl, by omega⟩
      subst hm
      simp only [Int.toNat_natCast]
      go_enter Try.func18, Try.ntmps18
      go_wp2_with fail
      refine (ballotsOf_yes A c vs hq _ HR.out hn).mono ?_
      rintro e w1 ⟨b, rfl, hlo, hbal, hb1⟩
      have hB1 := on_ (up_ (Below.refl w.heap.size w) _) hb1
      clear hb1 HR
      go_wp2_with (first | (go_at_call 47; refine (implSize_is _ true hs _).mono ?_; rintro e w0 ⟨rfl, rfl⟩) | fail)
      refine (silent_any m hm7 view hv (some b) vs _ hbal).mono ?_
      rintro e w2 ⟨v, rfl, hown, hb2⟩
      go_wp2
      go_ret
      exact ⟨_, rfl, own_more3 hown hB1.size, on_ hB1 hb2⟩
end Go.Proofs.Ytaegcdbgnjlbdaa.V
