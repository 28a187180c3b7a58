/-
  Proved here: for whatever bytes of a draw, the law FnVoters (those who told a value are counted; each is told; all of a group told something or are silent) answers true. No condition.
-/
import Derived.Test.YtaegcdbgnjlbdaaRows
import Derived.Test.YtaegcdbgnjlbdaaDoor
import Derived.Test.YtaegcdbgnjlbdaaDraw6
import Derived.Test.YtaegcdbgnjlbdaaTallies
import Derived.Test.YtaegcdbgnjlbdaaImplLook
import Derived.Test.YtaegcdbgnjlbdaaImplWin
import Derived.Test.YtaegcdbgnjlbdaaImplOpen
import Derived.Test.YtaegcdbgnjlbdaaTalMath
import Derived.Test.YtaegcdbgnjlbdaaLift
set_option linter.unusedVariables false
set_option maxRecDepth 100000
namespace Go.Proofs.Ytaegcdbgnjlbdaa.fnVoters
open Go.RowKit Go.ChangeShapes Go.WideShapes Go.Proofs.Ytaegcdbgnjlbdaa.B Go.Proofs.Ytaegcdbgnjlbdaa.V

theorem flen {p q r : Nat → Bool} : ∀ (l : List Nat), (∀ i ∈ l, (r i).toNat = (p i).toNat + (q i).toNat) → (l.filter r).length = (l.filter p).length + (l.filter q).length
  | [], _ => rfl
  | a :: l, h => by
    have ih := flen l fun i hi => h i (List.mem_cons_of_mem _ hi)
    have ha := h a List.mem_cons_self
    rcases hp : p a <;> rcases hq : q a <;> rcases hr : r a <;> rw [hp, hq, hr] at ha <;> simp at ha <;> simp [hp, hq, hr] <;> omega
theorem rng (p : Nat → Bool) (n : Nat) : ∀ m, n ≤ m → ((List.range m).filter (fun i => p i && decide (i < n))).length = ((List.range n).filter p).length
  | 0, h => by
    obtain rfl : n = 0 := by omega
    rfl
  | m + 1, h => by
    by_cases hn : n ≤ m
    · rw [List.range_succ, List.filter_append, List.length_append, rng p n m hn]
      have : decide (m < n) = false := decide_eq_false (by omega)
      simp [this]
    · obtain rfl : n = m + 1 := by omega
      congr 1
      refine List.filter_congr fun i hi => ?_
      have := List.mem_range.1 hi
      simp [this]
def preN (n : Int) (l : List Int) (i : Nat) : Nat := ((l.take i).filter fun x => decide (x < n)).length
theorem preN_step (n : Int) (l : List Int) (i : Nat) (h : i < l.length) : preN n l (i + 1) = preN n l i + (if l.getD i 0 < n then 1 else 0) := by
  unfold preN
  rw [List.take_add_one, List.filter_append, List.length_append, List.getElem?_eq_getElem h, List.getD_eq_getElem?_getD, List.getElem?_eq_getElem h]
  by_cases hx : l[i] < n <;> simp [hx]
theorem preN_le (n : Int) (l : List Int) (i : Nat) : preN n l i ≤ i := by
  unfold preN
  exact Nat.le_trans (List.length_filter_le _ _) (by rw [List.length_take]; exact Nat.min_le_left _ _)
def totP (vs : List B3) (view : Int) (v : Nat) (i : Nat) : Bool := foundQ vs view (i : Int) && decide (1 ≤ foundV vs view (i : Int) ∧ foundV vs view (i : Int) ≤ (v : Int))
def totK (vs : List B3) (view n : Int) (v : Nat) : Nat := (silentR n vs view).length + ((List.range n.toNat).filter (totP vs view v)).length
theorem tot_zero (vs : List B3) (view n : Int) : totK vs view n 0 = (silentR n vs view).length := by
  have : (List.range n.toNat).filter (totP vs view 0) = [] := List.filter_eq_nil_iff.2 fun i _ h => by
    unfold totP at h
    simp only [Bool.and_eq_true, decide_eq_true_eq] at h
    omega
  unfold totK
  rw [this]; rfl
theorem vot_is {vs : List B3} (hq : tallyOkB vs = true) (view val : Int) : votersR vs view val = votK vs view val 7 := by
  rw [← votK_all]; unfold goodL; rw [hq]; rfl
theorem tot_step {vs : List B3} (hq : tallyOkB vs = true) (view n : Int) (hs : sizeB n = true) (v : Nat) :
    totK vs view n (v + 1) = totK vs view n v + preN n (votersR vs view ((v + 1 : Nat) : Int)) (votersR vs view ((v + 1 : Nat) : Int)).length := by
  have hn := size_two hs
  unfold totK
  rw [Nat.add_assoc]
  congr 1
  rw [vot_is hq]
  unfold preN
  rw [List.take_length]
  unfold votK
  rw [List.filter_map, List.length_map, List.filter_filter]
  have e : ((List.range 7).filter fun a => ((fun x => decide (x < n)) ∘ fun (i : Nat) => (i : Int)) a && (foundQ vs view (a : Int) && decide (foundV vs view (a : Int) = ((v + 1 : Nat) : Int)))).length = ((List.range n.toNat).filter fun (a : Nat) => foundQ vs view (a : Int) && decide (foundV vs view (a : Int) = ((v + 1 : Nat) : Int))).length := by
    rw [← rng _ n.toNat 7 (by omega)]
    congr 1
    refine List.filter_congr fun i _ => ?_
    have : decide ((i : Int) < n) = decide (i < n.toNat) := by
      rw [decide_eq_decide]
      omega
    simp only [Function.comp, this]
    exact Bool.and_comm _ _
  rw [e]
  refine flen _ fun i _ => ?_
  unfold totP
  generalize foundV vs view (i : Int) = x
  rcases foundQ vs view (i : Int) with _ | _
  · rfl
  · simp only [Bool.true_and]
    by_cases h1 : 1 ≤ x ∧ x ≤ (v : Int)
    · rw [decide_eq_true h1, decide_eq_true (show 1 ≤ x ∧ x ≤ ((v + 1 : Nat) : Int) by omega), decide_eq_false (show ¬ x = ((v + 1 : Nat) : Int) by omega)]; rfl
    · by_cases h2 : x = ((v + 1 : Nat) : Int)
      · rw [decide_eq_false h1, decide_eq_true (show 1 ≤ x ∧ x ≤ ((v + 1 : Nat) : Int) by omega), decide_eq_true h2]; rfl
      · rw [decide_eq_false h1, decide_eq_false (show ¬ (1 ≤ x ∧ x ≤ ((v + 1 : Nat) : Int)) by omega), decide_eq_false h2]; rfl
theorem found_ok {vs : List B3} (hq : tallyOkB vs = true) {view who : Int} (h : foundQ vs view who = true) : 1 ≤ foundV vs view who ∧ foundV vs view who ≤ 60 := by
  have hm := (found_iff (pair_of hq)).1 ⟨h, rfl⟩
  have := mem_ok hq hm
  unfold b3Ok valB at this
  simp only [Bool.and_eq_true, decide_eq_true_eq] at this
  exact this.2
theorem tot_end {vs : List B3} (hq : tallyOkB vs = true) (view n : Int) (hs : sizeB n = true) : ((totK vs view n 60 : Nat) : Int) = n := by
  have hn := size_two hs
  have e : (silentR n vs view).length = ((List.range n.toNat).filter fun (i : Nat) => !(foundQ vs view (i : Int))).length := by
    unfold silentR
    rw [hs, hq]
    simp only [Bool.and_self, if_true, silentK, List.length_map]
  unfold totK
  rw [e, ← flen (r := fun _ => true) _ fun i _ => ?_]
  · rw [List.filter_eq_self.2 (fun _ _ => rfl), List.length_range]; omega
  · unfold totP
    rcases hf : foundQ vs view (i : Int) with _ | _
    · rfl
    · have := found_ok hq hf
      rw [decide_eq_true (show 1 ≤ foundV vs view (i : Int) ∧ foundV vs view (i : Int) ≤ ((60 : Nat) : Int) by omega)]; rfl
theorem tot_le {vs : List B3} (view n : Int) (hs : sizeB n = true) (v : Nat) : totK vs view n v ≤ 14 := by
  have hn := size_two hs
  have h1 := silentR_le n vs view
  have h2 := List.length_filter_le (totP vs view v) (List.range n.toNat)
  rw [List.length_range] at h2
  unfold totK
  omega
theorem vot_mem {vs : List B3} (hq : tallyOkB vs = true) (view val : Int) (i : Nat) (hi : i < (votersR vs view val).length) :
    ∃ y : Nat, y < 7 ∧ (votersR vs view val).getD i 0 = (y : Int) ∧ toldR vs view (y : Int) = val ∧ toldQ vs view (y : Int) = true := by
  have e : (votersR vs view val).getD i 0 = (votersR vs view val)[i] := by rw [List.getD_eq_getElem?_getD, List.getElem?_eq_getElem hi]; rfl
  have hm : (votersR vs view val).getD i 0 ∈ votersR vs view val := by rw [e]; exact List.getElem_mem hi
  generalize (votersR vs view val).getD i 0 = z at *
  rw [vot_is hq] at hm
  unfold votK at hm
  obtain ⟨y, hy, rfl⟩ := List.mem_map.1 hm
  obtain ⟨hr, hp⟩ := List.mem_filter.1 hy
  simp only [Bool.and_eq_true, decide_eq_true_eq] at hp
  refine ⟨y, List.mem_range.1 hr, rfl, ?_, ?_⟩
  · rw [← toldV_is]; unfold goodL; rw [hq]; exact hp.2
  · rw [← toldQ_is]; unfold goodL; rw [hq]; exact hp.1
theorem vot_len (vs : List B3) (view val : Int) : countR vs view val = ((votersR vs view val).length : Int) := by
  unfold countR votersR
  split
  · simp [votersL, cntB]
  · rfl
theorem vot_le {vs : List B3} (hq : tallyOkB vs = true) (view val : Int) : (votersR vs view val).length ≤ 7 := by rw [vot_is hq]; exact votK_len _ _ _ _

set_option maxHeartbeats 1600000 in
theorem walk (A : Option Addr) (n c : Nat) (hm : n ≤ maxLen) (w : World) (hr : RdC w w.heap.size A n) :
    Calls Try.prog 5 #[.slice A n c] w fun e w' => e = .returned (.bool true) ∧ Below w.heap.size w w' := by
  have HD := Lib.hid (drawSilent_any A n c hm w hr)
  clear hr
  go_enter Try.func5, Try.ntmps5
  go_wp2_with fail
  refine HD.out.mono ?_
  rintro e w0 ⟨B, d, vs, b1, nn, view, rfl, hul, hot, -, hn3, hv0, hv1, hB0⟩
  have hwv : wfI view := WalkArith.wf_i64 (by omega)
  have hr1 := Lib.hid (hot.rd.up (.cells #[.slice B vs.length d] 44))
  have hB1 := Lib.hid (up_ hB0 (.cells #[.slice B vs.length d] 44))
  have kt1 := Lib.hid (Blk.new w0 44 #[.slice B vs.length d])
  obtain ⟨q1, hq1⟩ : ∃ z, sizeB nn = z := ⟨_, rfl⟩
  obtain ⟨q2, hq2⟩ : ∃ z, tallyOkB vs = z := ⟨_, rfl⟩
  have HSZ : Hid (∀ W, Calls Try.prog 19 #[.int .i64 nn] W fun e w' => e = .returned (.bool q1) ∧ w' = W) := fun W => specSize_is nn q1 hq1 W
  have HTO : Hid (∀ W, Rd3 W W.heap.size B vs → Calls Try.prog 20 #[.agg #[.slice B vs.length d]] W fun e w' => e = .returned (.bool q2) ∧ Below W.heap.size W w') := fun W h => specTallyOk_is q2 B d vs hq2 W h (by omega)
  obtain ⟨m, hmv⟩ : ∃ m, vs.length = m := ⟨_, rfl⟩
  obtain ⟨sl, hsl⟩ : ∃ z, (silentR nn vs view).length = z := ⟨_, rfl⟩
  have hsl7 : sl ≤ 7 := by rw [← hsl]; exact silentR_le nn vs view
  have HSI : Hid (∀ W, Rd3 W W.heap.size B vs → Calls Try.prog 18 #[.int .i64 nn, .agg #[.slice B vs.length d], .int .i64 view] W fun e w' => ∃ B5 d5, e = .returned (.slice B5 sl d5) ∧ Below W.heap.size W w') := fun W h => by
    refine (implSilent_any nn view hwv B d vs W h (by omega)).mono fun e w' h => ?_
    obtain ⟨v5, rfl, hown5, hb5⟩ := h
    obtain ⟨B5, d5, rfl⟩ := form1 hown5
    rw [hsl] at hown5 ⊢
    exact ⟨B5, d5, rfl, hb5⟩
  have HVO : Hid (∀ (v : Nat) W, v ≤ 60 → Rd3 W W.heap.size B vs → Calls Try.prog 22 #[.agg #[.slice B vs.length d], .int .i64 view, .int .i64 v] W (NRes (votersR vs view v) W)) := fun v W hv h => implVoters_any view v hwv B d vs W h (by omega)
  have HCO : Hid (∀ (v : Nat) W, v ≤ 60 → Rd3 W W.heap.size B vs → Calls Try.prog 23 #[.agg #[.slice B vs.length d], .int .i64 view, .int .i64 v] W fun e w' => e = .returned (.int .i64 ((votersR vs view v).length : Nat)) ∧ Below W.heap.size W w') := fun v W hv h => by
    have := implCount_any view v hwv B d vs W h (by omega)
    rwa [vot_len] at this
  have HTE : Hid (∀ (x : Int) W, wfI x → Rd3 W W.heap.size B vs → Calls Try.prog 24 #[.agg #[.slice B vs.length d], .int .i64 view, .int .i64 x] W fun e w' => e = .returned (.tuple #[.int .i64 (toldR vs view x), .bool (toldQ vs view x)]) ∧ Below W.heap.size W w') := fun x W hx h => implTold_any view x hwv hx B d vs W h (by omega)
  rw [hmv] at HTO HVO HCO HTE HSI hr1 hB1 kt1 hul ⊢
  clear hmv hot hB0 HD hn3
  go_wp2_with fail
  have hr1 := hr1.out
  have hB1 := hB1.out
  have kt1 := kt1.out
  generalize w0.alloc (.cells #[.slice B m d] 44) = w1 at *
  have rt := kt1.rule
  refine (HSI.out w1 hr1).mono ?_
  rintro e w2 ⟨B2, d2, rfl, hb2⟩
  have hr2 := Lib.hid (hr1.on hb2)
  have hB2 := Lib.hid (on_ hB1 hb2)
  have kt2 := Lib.hid (kt1.on hb2)
  clear hb2 hr1 hB1 kt1 HSI rt
  have rt := kt2.out.rule
  rcases q1 with _ | _
  · have hs0 : sl = 0 := by rw [← hsl]; unfold silentR; rw [hq1]; rfl
    subst hs0
    go_wp2_with fail
    refine (HSZ.out w2).mono ?_
    rintro e wz ⟨rfl, hwz⟩
    have hwz' := hwz.symm
    clear hwz
    subst hwz'
    go_wp2_with fail
    refine (tallies_any _).mono ?_
    rintro e wz ⟨rfl, hbz⟩
    have hBz := on_ hB2.out hbz
    go_wp2
    go_ret
    exact ⟨rfl, hBz⟩
  go_wp2_with fail
  refine (HSZ.out w2).mono ?_
  rintro e wz ⟨rfl, hwz⟩
  have hwz' := hwz.symm
  clear hwz
  subst hwz'
  rcases q2 with _ | _
  · have hs0 : sl = 0 := by rw [← hsl]; unfold silentR; rw [hq1, hq2]; rfl
    subst hs0
    go_wp2_with fail
    refine (HTO.out w2 hr2.out).mono ?_
    rintro e w3 ⟨rfl, hb3⟩
    have hB3 := Lib.hid (on_ hB2.out hb3)
    have hr3 := Lib.hid (hr2.out.on hb3)
    have kt3 := Lib.hid (kt2.out.on hb3)
    have rt := kt3.out.rule
    clear hb3 hB2 hr2 kt2
    go_wp2_with fail
    refine (tallies_any _).mono ?_
    rintro e wz ⟨rfl, hbz⟩
    have hBz := on_ hB3.out hbz
    go_wp2
    go_ret
    exact ⟨rfl, hBz⟩
  go_wp2_with fail
  refine (HTO.out w2 hr2.out).mono ?_
  rintro e w3 ⟨rfl, hb3⟩
  have hB3 := Lib.hid (on_ hB2.out hb3)
  have hr3 := Lib.hid (hr2.out.on hb3)
  have kt3 := Lib.hid (kt2.out.on hb3)
  have rt := kt3.out.rule
  clear hb3 hB2 hr2 kt2
  have HT0 := tot_zero vs view nn
  rw [hsl] at HT0
  have HST := Lib.hid (tot_step hq2 view nn hq1)
  have HTN := Lib.hid (tot_end hq2 view nn hq1)
  have HTL := Lib.hid (tot_le (vs := vs) view nn hq1)
  have HME := Lib.hid (vot_mem hq2 view)
  have HVL := Lib.hid (vot_le hq2 view)
  have HT0 := Lib.hid HT0
  have rt := kt3.out.rule
  clear hsl hq1 hq2 HTO HSZ
  go_wp2
  clear rt
  go_loopw [7, 8, 9, 10, 11, 12] (fun kv vv l5 i5 x5 o5 wr => ∃ j : Nat, j ≤ 60 ∧ vv = .int .i64 ((j + 1 : Nat) : Int) ∧ kv = .int .i64 ((totK vs view nn j : Nat) : Int) ∧ Below w3.heap.size w3 wr) (fun _ vv _ _ _ _ _ => 61 - (intOf vv).toNat)
  case atStart => exact ⟨0, by omega, rfl, by rw [HT0.out], Below.refl _ _⟩
  case round =>
    obtain ⟨j, hj60, rfl, rfl, hbel⟩ := hrel
    have hB4 := Lib.hid (on_ hB3.out hbel)
    have hr4 := Lib.hid (hr3.out.on hbel)
    have kt4 := Lib.hid (kt3.out.on hbel)
    have HBE := Lib.hid hbel
    clear hbel
    have rt := kt4.out.rule
    by_cases hj : j < 60
    · have hjx : (j : Int) + 1 ≤ 60 := by omega
      have HV := Lib.hid (fun W h => (HVO.out (j + 1) W (by omega) h).mono fun _ _ => nres_of)
      have HC := Lib.hid (fun W h => HCO.out (j + 1) W (by omega) h)
      have HT1 := Lib.hid (HST.out j)
      have htl0 := HTL.out j
      have htl := Lib.hid (HTL.out j)
      have HM1 := Lib.hid (fun i hi => HME.out ((j + 1 : Nat) : Int) i hi)
      have hll := HVL.out ((j + 1 : Nat) : Int)
      obtain ⟨K, hK⟩ : ∃ K, totK vs view nn j = K := ⟨_, rfl⟩
      obtain ⟨l, hl⟩ : ∃ l, votersR vs view ((j + 1 : Nat) : Int) = l := ⟨_, rfl⟩
      rw [hK] at HT1 htl htl0 ⊢
      rw [hl] at HV HC HT1 HM1 hll
      obtain ⟨N, hN⟩ : ∃ N, l.length = N := ⟨_, rfl⟩
      rw [hN] at HC HT1 HM1 hll
      have HN := Lib.hid hN
      have hc1 : ((j + 1 : Nat) : Int) = (j : Int) + 1 := rfl
      rw [hc1] at HV HC HM1
      have hle : wfI ((N : Nat) : Int) := WalkArith.wf_i64 (by omega)
      clear hK hl HVO HCO HST HTL HME HVL hj60 HTN HT0
      clear hN hc1
      go_wp2_with fail
      refine (HV.out wr hr4.out).mono ?_
      rintro e w5 ⟨B5, d5, rfl, ho5, hb5⟩
      rw [HN.out]
      have HB5 := Lib.hid (on_ HBE.out hb5)
      have hr5 := Lib.hid (hr4.out.on hb5)
      have kt5 := Lib.hid (kt4.out.on hb5)
      have ho5 := Lib.hid ho5.rd
      clear hb5 HBE hr4 kt4 hB4 rt HV
      have rt := kt5.out.rule
      go_wp2_with fail
      refine (HC.out w5 hr5.out).mono ?_
      rintro e w6 ⟨rfl, hb6⟩
      have HB6 := Lib.hid (on_ HB5.out hb6)
      have hr6 := Lib.hid (hr5.out.on hb6)
      have kt6 := Lib.hid (kt5.out.on hb6)
      have ho6 := Lib.hid (ho5.out.on hb6)
      clear hb6 HB5 hr5 kt5 ho5 rt HC
      have rt := kt6.out.rule
      have hnn : (((N : Nat) : Int) == ((N : Nat) : Int)) = true := by simp
      go_wp2
      clear rt
      go_loopw [7, 10, 11, 12] (fun kv ii x5 o5 wt => ∃ i : Nat, i ≤ N ∧ ii = .int .i64 i ∧ kv = .int .i64 (((K + preN nn l i : Nat)) : Int) ∧ Below w6.heap.size w6 wt) (fun _ ii _ _ _ => N - (intOf ii).toNat)
      case atStart => exact ⟨0, Nat.zero_le _, rfl, by simp [preN], Below.refl _ _⟩
      case round =>
        obtain ⟨i, hin, rfl, rfl, hbl⟩ := hrel
        have hpl := preN_le nn l i
        obtain ⟨pn, hpn⟩ : ∃ z, preN nn l i = z := ⟨_, rfl⟩
        by_cases hi : i < N
        · have hiN : (i : Int) < (N : Int) := by omega
          obtain ⟨y, hy7, hye, htr, htq⟩ := HM1.out i hi
          obtain ⟨b, off, rfl, hb, hc0⟩ := RdI.at_ (ho6.out.below hbl) (k := i) (by rw [HN.out]; exact hi)
          have hps := preN_step nn l i (by rw [HN.out]; exact hi)
          rw [hye] at hc0 hps
          rw [hpn] at hps hpl ⊢
          have HTL2 := Lib.hid (fun W h => HTE.out (y : Int) W (WalkArith.wf_i64 (by omega)) h)
          rw [htr, htq] at HTL2
          have HPS := Lib.hid hps
          have hr7 := Lib.hid (hr6.out.on hbl)
          have kt7 := Lib.hid (kt6.out.on hbl)
          have HBL := Lib.hid hbl
          have C0 := fun x : Lat wr => x.cell hc0
          have HC0 := Lib.hid hc0
          have hbw := Lib.hid (Nat.lt_of_lt_of_le hb hbl.size)
          have lt := lat_blk kt7.out
          clear hps hc0 hbl hb htr htq hye hpn HTE HM1 hin
          go_wp2
          refine wp_region_lat (by kernel_rfl) (by kernel_rfl) ?_
          repeat (go_big_quiet_step ((go_at_call 24; with_reducible exact lat_call _ (HTL2.out _ ((hr7.out.below (Lat.below _)).more (Lat.below _).size)))))
          refine wpQuiet_nil ?_
          rintro w8 ⟨⟨_, hb8⟩, rfl⟩
          clear lt C0
          have HB8 := Lib.hid (on_ HBL.out hb8)
          have hc8 := (hb8.cell (p := ⟨b, off + i, none⟩) hbw.out).trans HC0.out
          clear HC0 hbw
          clear hb8 HBL hr7 kt7 HTL2
          by_cases hyn : (y : Int) < nn
          · have HP := Lib.hid (HPS.out.trans (by rw [if_pos hyn]))
            clear HPS
            --CCD
            go_wp2
            go_roundw
            case rel => exact ⟨i + 1, hi, by go_num, by rw [HP.out]; go_num, HB8.out⟩
            case measure => simp [intOf]; omega
          · have HP := Lib.hid (HPS.out.trans (by rw [if_neg hyn]))
            have hyn2 : nn ≤ (y : Int) := by omega
            clear HPS
            go_wp2
            go_roundw
            case rel => exact ⟨i + 1, hi, by go_num, by rw [HP.out]; go_num, HB8.out⟩
            case measure => simp [intOf]; omega
        · have hie : i = N := by omega
          subst hie
          have hBz := Lib.hid (on_ HB6.out hbl)
          rw [← HT1.out]
          clear hpn hpl HTE HM1 hin hbl
          go_wp2
          go_roundw
          case rel => exact ⟨j + 1, hj, by go_num, rfl, hBz.out⟩
          case measure => simp [intOf]; omega
    · have hje : j = 60 := by omega
      subst hje
      rw [HTN.out]
      have hnn : (nn == nn) = true := by simp
      clear HVO HCO HTE HST HTL HME HVL
      --DDD
      go_wp2_with fail
      refine (tallies_any _).mono ?_
      rintro e wz ⟨rfl, hbz⟩
      have hBz := on_ hB4.out hbz
      go_wp2
      go_ret
      exact ⟨rfl, hBz⟩

theorem closed : joinedFacts Try.prog 5 Try.f5 Rows.fnVotersSpec Rows.fnVotersRow = true := by
  unfold joinedFacts
  rw [D.make_is, D.enter_is, D.final_is]
  kernel_rfl

set_option maxRecDepth 100000 in
theorem lifted (os : Os) (started : os.Started) (H : Type) (enc : TypeId × Value → H) :
    ReturnsInHanded {} Try.checked os 5 .any (Rows.fnVotersSpec.pre6 enc Try.prog Try.f5 Rows.fnVotersRow.domain false) (Rows.fnVotersSpec.post enc Try.prog Try.f5 false true false false) := by
  refine returnsInHanded_of_change (C := Try.checked) D.own started (by kernel_rfl) Try.func5
    (ChangeSpec.witness6 (enc := enc) (C := Try.checked) false ⟨#[], #[.slice none 0 0], []⟩ 8 (by kernel_rfl) (by kernel_rfl) (by kernel_rfl) (by kernel_rfl)) ?_
  intro W base args ds gs before hval0 hW hcnd _
  have hval : ∀ (j : Nat) t v, Try.f5.params[j]? = some t → args[j]? = some v → Value.okWide Try.prog W .any base t v := hval0
  have hW' := hW
  obtain ⟨p, q, hA0, hV, rfl, hfz, hnd⟩ := hW
  have hA : DataW.TrodAll enc Try.prog W 0 (fun _ => true) true Try.f5.params.toList args.toList ds p := hA0
  rw [Try.params5] at hA hval
  obtain ⟨v0, d0, rfl, rfl, h0⟩ := trodAll_one hA
  obtain ⟨a0, len0, cap0, rfl⟩ := okWide_slice Try.underlying22 (hval 0 22 v0 rfl rfl)
  obtain ⟨fuel0, hf0⟩ := h0
  obtain ⟨Ab, nb, cb, hcs0, hmb, hrb⟩ := open_code hf0
  have hv0 : (Value.slice a0 len0 cap0) = .slice Ab nb cb := by simpa [Value.cells] using hcs0
  rw [hv0] at hW' ⊢
  refine (walk Ab nb cb hmb W hrb).mono fun e W' ⟨he, hb⟩ => ⟨_, he, law_post D.laidOut hW' hb rfl (by kernel_rfl) Try.underlying4 (by kernel_rfl) rfl⟩

theorem over : Rows.fnVotersRow.holds Try.pinned (OpenSpec.ofChange Rows.fnVotersSpec) :=
  OpenClaim.holds_of_wide 5 Try.f5 rfl rfl rfl rfl rfl rfl rfl ⟨rfl, rfl, rfl, rfl, rfl⟩ rfl rfl rfl rfl rfl (by kernel_rfl) Try.func5 closed
    (of_decide_eq_true (by kernel_rfl)) (by unfold Func.isWrapper; first | (rw [if_pos (by decide +kernel)]; kernel_rfl) | (rw [if_neg (by decide +kernel)]; exact ⟨rfl, rfl⟩))
    (fun os started H enc _ => lifted os started H enc)

theorem proved : Rows.FnVotersSaid :=
  over
end Go.Proofs.Ytaegcdbgnjlbdaa.fnVoters
