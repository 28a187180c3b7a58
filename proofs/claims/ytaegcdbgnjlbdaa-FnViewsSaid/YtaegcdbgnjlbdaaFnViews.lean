/-
  Proved here: for whatever bytes of a draw, the law FnViews (the views of a tally are ascending, and all other views have no ballots) answers true. No condition.
-/
import Derived.Test.YtaegcdbgnjlbdaaRows
import Derived.Test.YtaegcdbgnjlbdaaDoor
import Derived.Test.YtaegcdbgnjlbdaaDraw6
import Derived.Test.YtaegcdbgnjlbdaaTallies
import Derived.Test.YtaegcdbgnjlbdaaImplViews
import Derived.Test.YtaegcdbgnjlbdaaTalMath
import Derived.Test.YtaegcdbgnjlbdaaLift
set_option linter.unusedVariables false
set_option maxRecDepth 100000
namespace Go.Proofs.Ytaegcdbgnjlbdaa.fnViews
open Go.RowKit Go.ChangeShapes Go.WideShapes Go.Proofs.Ytaegcdbgnjlbdaa.B Go.Proofs.Ytaegcdbgnjlbdaa.V

set_option maxHeartbeats 1600000 in
theorem drawViews_any (A : Option Addr) (n c : Nat) (hm : n ≤ maxLen) (w : World) (hr : RdC w w.heap.size A n) : Calls Try.prog 25 #[.slice A n c] w fun e w' => ∃ B d us b1, e = .returned (.agg #[.slice B us.length d]) ∧ us.length ≤ 15 ∧ OT w' 61 b1 B us ∧ Below w.heap.size w w' := by
  obtain ⟨W0, hW0⟩ : ∃ W0, w.alloc (.cells #[.slice none 0 0] 44) = W0 := ⟨_, rfl⟩
  have hB0 : Below w.heap.size w W0 := by rw [← hW0]; exact up_ (Below.refl _ _) _
  have kT0 : Blk W0 w.heap.size 44 #[.slice none 0 0] := by rw [← hW0]; exact Blk.new w _ _
  have hs0 : W0.heap.size = w.heap.size + 1 := by rw [← hW0]; simp
  have hr0 := RdC.more (RdC.below hr hB0) hB0.size
  have HW0 := Lib.hid hW0; clear hW0
  have HS0 := Lib.hid hs0; clear hs0
  go_enter Try.func25, Try.ntmps25
  go_wp2_with fail
  rw [HW0.out]
  refine (new_any A n c hm _ hr0).mono ?_
  rintro e w1 ⟨p, rfl, hc, hb1⟩
  clear hr0
  go_wp2_with fail
  refine (l2bent_any _ p w1 hc).mono ?_
  rintro e w2 ⟨B, d, us, rfl, hul, hcap, hrd, hc2, hg2⟩
  have hd2 : DS W0 p w1.heap.size B us w2 := ⟨hc2, hrd, (cur_lt hc).1, below_cur hb1 (cur_lt hc).2 hg2⟩
  have hb1s := hb1.size
  clear hb1 hc hrd hc2 hg2
  have kT4 := kT0.below hd2.be (by have := HS0.out; omega)
  have r4 := kT4.rule
  have f4 := fun i => kT4.frozen i
  obtain ⟨e1, e2, e3⟩ := one_end (d := d) HS0.out hB0 kT0 hd2 hb1s
  have o1 := Lib.hid (hd2.2.1.set_ (p := ⟨w.heap.size, 0, none⟩) (by show w.heap.size < w1.heap.size; have := HS0.out; omega) (.slice B us.length d))
  have r5 := e1.rule
  clear e1 e2 hd2 kT4 hb1s
  go_wp2
  exact bodyPost_ret (v := .agg #[.slice B us.length d]) (by simp [results, Try.results25, go_sem, r5]) rfl ⟨B, d, us, _, rfl, hul, o1.out, e3⟩
theorem viewK_asc (M : List B3) (k : Nat) : (viewK M k).Pairwise fun a b => a < b := by
  unfold viewK
  rw [List.pairwise_map]
  exact (List.Pairwise.sublist List.filter_sublist List.pairwise_lt_range).imp fun h => by omega
theorem viewK_any (M : List B3) (k v : Nat) (hv : v < k) : (viewK M k).any (fun y => y == (v : Int)) = anyV M v := by
  unfold viewK
  rw [Bool.eq_iff_iff, List.any_eq_true]
  constructor
  · rintro ⟨y, hy, e⟩
    obtain ⟨i, hi, rfl⟩ := List.mem_map.1 hy
    have e : (i : Int) = (v : Int) := by simpa using e
    rw [← e]
    exact (List.mem_filter.1 hi).2
  · intro h
    exact ⟨(v : Int), List.mem_map.2 ⟨v, List.mem_filter.2 ⟨List.mem_range.2 hv, h⟩, rfl⟩, by simp⟩
theorem sil_any (vs : List B3) (v : Int) (hq : tallyOkB vs = true) : ((silentR 7 vs v).length == 7) = !anyV vs v := by
  have e : silentR 7 vs v = silentK vs v 7 := by unfold silentR; rw [hq]; rfl
  rw [e]
  rcases ha : anyV vs v with _ | _
  · have hall : ∀ i : Nat, foundQ vs v (i : Int) = false := fun i => by
      rcases hf : foundQ vs v (i : Int) with _ | _
      · rfl
      · exfalso
        unfold foundQ at hf
        obtain ⟨u, hu⟩ := Option.isSome_iff_exists.1 hf
        have hm := List.mem_of_find?_eq_some hu
        have hp := List.find?_some hu
        simp only [isOf, decide_eq_true_eq] at hp
        have : anyV vs v = true := List.any_eq_true.2 ⟨u, hm, by simpa using hp.1⟩
        rw [ha] at this; cases this
    have : (silentK vs v 7).length = 7 := by
      simp only [silentK, List.length_map]
      rw [List.filter_eq_self.2 (fun i _ => by rw [hall i]; rfl), List.length_range]
    simp [this]
  · obtain ⟨u, hu, he⟩ := List.any_eq_true.1 ha
    have he : u.2.1 = v := by simpa using he
    have hok := mem_ok hq hu
    have h7 : 0 ≤ u.1 ∧ u.1 < 7 := by
      unfold b3Ok at hok
      simp only [Bool.and_eq_true, decide_eq_true_eq] at hok
      exact hok.1.1
    obtain ⟨i, hi⟩ : ∃ i : Nat, u.1 = (i : Int) := ⟨u.1.toNat, by omega⟩
    have hf : foundQ vs v (i : Int) = true := by
      unfold foundQ
      rw [List.find?_isSome]
      exact ⟨u, hu, by simp [isOf, he, hi]⟩
    have hlt : (silentK vs v 7).length < 7 := by
      simp only [silentK, List.length_map]
      have := List.length_filter_lt_length_iff_exists (p := fun (i : Nat) => !(foundQ vs v (i : Int))) (l := List.range 7)
      rw [List.length_range] at this
      exact this.2 ⟨i, List.mem_range.2 (by omega), by simp [hf]⟩
    simp only [Bool.not_true, beq_eq_false_iff_ne]
    omega
theorem viewsR_eq {vs : List B3} (h : tallyOkB vs = true) : viewsR vs = viewK vs 10 := by
  rw [← viewK_all]; unfold goodL; rw [h]; rfl
theorem viewsR_len (vs : List B3) : (viewsR vs).length ≤ 10 := by
  rw [← viewK_all]
  unfold viewK
  rw [List.length_map]
  exact Nat.le_trans (List.length_filter_le _ _) (by rw [List.length_range]; omega)
set_option maxHeartbeats 1600000 in
theorem walk (A : Option Addr) (n c : Nat) (hm : n ≤ maxLen) (w : World) (hr : RdC w w.heap.size A n) :
    Calls Try.prog 6 #[.slice A n c] w fun e w' => e = .returned (.bool true) ∧ Below w.heap.size w w' := by
  have HD := Lib.hid (drawViews_any A n c hm w hr)
  clear hr
  go_enter Try.func6, Try.ntmps6
  go_wp2_with fail
  refine HD.out.mono ?_
  rintro e w0 ⟨B, d, vs, b1, rfl, hul, hot, hB0⟩
  have hr1 := Lib.hid (hot.rd.up (.cells #[.slice B vs.length d] 44))
  have hB1 := Lib.hid (up_ hB0 (.cells #[.slice B vs.length d] 44))
  have kt1 := Lib.hid (Blk.new w0 44 #[.slice B vs.length d])
  obtain ⟨q2, hq2⟩ : ∃ z, tallyOkB vs = z := ⟨_, rfl⟩
  have HTO : Hid (∀ W, Rd3 W W.heap.size B vs → Calls Try.prog 20 #[.agg #[.slice B vs.length d]] W fun e w' => e = .returned (.bool q2) ∧ Below W.heap.size W w') := fun W h => specTallyOk_is q2 B d vs hq2 W h (by omega)
  have HVI := Lib.hid (fun (W : World) (h : Rd3 W W.heap.size B vs) => (implViews_any B d vs W h (by omega)).mono fun _ _ => nres_of)
  have HSI : Hid (∀ (k : Nat) W, k ≤ 9 → Rd3 W W.heap.size B vs → Calls Try.prog 18 #[.int .i64 7, .agg #[.slice B vs.length d], .int .i64 k] W fun e w' => ∃ B5 d5, e = .returned (.slice B5 (silentR 7 vs k).length d5) ∧ Below W.heap.size W w') := fun k W hk h => by
    refine (implSilent_any 7 k (WalkArith.wf_i64 (by omega)) B d vs W h (by omega)).mono fun e w' h => ?_
    obtain ⟨v5, rfl, hown5, hb5⟩ := h
    obtain ⟨B5, d5, rfl⟩ := form1 hown5
    exact ⟨B5, d5, rfl, hb5⟩
  have hxs0 : q2 = false → viewsR vs = [] := fun h => by rw [← hq2] at h; unfold viewsR; rw [h]; rfl
  have hasc : (viewsR vs).Pairwise fun a b => a < b := by
    rcases hq : tallyOkB vs with _ | _
    · unfold viewsR; rw [hq]; exact List.Pairwise.nil
    · rw [viewsR_eq hq]; exact viewK_asc vs 10
  have hany : q2 = true → ∀ k : Nat, k ≤ 9 → (viewsR vs).any (fun y => y == (k : Int)) = !((silentR 7 vs k).length == 7) := fun h k hk => by
    rw [← hq2] at h
    rw [viewsR_eq h, viewK_any vs 10 k (by omega), sil_any vs k h, Bool.not_not]
  obtain ⟨xs, hxs⟩ : ∃ z, viewsR vs = z := ⟨_, rfl⟩
  have hlen := viewsR_len vs
  rw [hxs] at HVI hxs0 hasc hany hlen
  have HASC : Hid (∀ i : Nat, i + 1 < xs.length → xs.getD i 0 < xs.getD (i + 1) 0) := fun i hi => by
    have := List.pairwise_iff_getElem.1 hasc i (i + 1) (by omega) hi (by omega)
    simpa [List.getD_eq_getElem?_getD, List.getElem?_eq_getElem hi, List.getElem?_eq_getElem (show i < xs.length by omega)] using this
  have HANY := Lib.hid hany
  have HX0 := Lib.hid hxs0
  obtain ⟨m, hmv⟩ : ∃ m, vs.length = m := ⟨_, rfl⟩
  rw [hmv] at HTO HVI HSI hr1 hB1 kt1 hul ⊢
  clear hmv hot hB0 HD hxs hasc hany hxs0 hq2
  go_wp2_with fail
  have hr1 := hr1.out
  have hB1 := hB1.out
  have kt1 := kt1.out
  generalize w0.alloc (.cells #[.slice B m d] 44) = w1 at *
  refine (HVI.out w1 hr1).mono ?_
  rintro e w2 ⟨B2, d2, rfl, ho2, hb2⟩
  have hr2 := Lib.hid (hr1.on hb2)
  have hB2 := Lib.hid (on_ hB1 hb2)
  have kt2 := Lib.hid (kt1.on hb2)
  have ho2 := Lib.hid ho2.rd
  obtain ⟨L, hL⟩ : ∃ L, xs.length = L := ⟨_, rfl⟩
  have HL := Lib.hid hL
  rw [hL] at HASC hlen ⊢
  clear hL hb2 hr1 hB1 kt1 HVI
  go_wp2
  go_loopw [5] (fun i wr => ∃ (k j : Nat), Hid (k = j + 1) ∧ (j < L ∨ j = 0) ∧ i = .int .i64 k ∧ Below w2.heap.size w2 wr) (fun i _ => L + 1 - (intOf i).toNat)
  case atStart => exact ⟨1, 0, rfl, .inr rfl, rfl, Below.refl _ _⟩
  case round =>
    obtain ⟨k, j, hkj, hjL, rfl, hbel⟩ := hrel
    have hk := hkj.out
    subst hk
    clear hkj
    by_cases hlt : j + 1 < L
    · obtain ⟨b, off, rfl, hb, hc0⟩ := RdI.at_ (ho2.out.below hbel) (k := j) (by rw [HL.out]; omega)
      obtain ⟨b', off', he', hb', hc1⟩ := RdI.at_ (ho2.out.below hbel) (k := j + 1) (by rw [HL.out]; omega)
      injection he' with he'
      injection he' with he1 he2
      subst he1 he2
      have hlt2 := HASC.out j (by omega)
      generalize xs.getD j 0 = a at *
      generalize xs.getD (j + 1) 0 = bb at *
      have d1 : decide (bb ≤ a) = false := decide_eq_false (by omega)
      have hW : IntKind.i64.wrap ((j : Int) + 1 - 1) = (j : Int) := by rw [IntWalk.i64_in _ (by omega)]; omega
      have hjL' : (j : Int) < (L : Int) := by omega
      have hkL' : (j : Int) + 1 < (L : Int) := by omega
      have C0 := fun x : Lat wr => x.cell hc0
      have C1 := fun x : Lat wr => x.cell hc1
      have HBEL := Lib.hid hbel
      clear hc0 hc1 hb hb' hbel hlt2
      go_wp2
      refine wp_region_lat (by kernel_rfl) (by kernel_rfl) ?_
      repeat (go_big_quiet_step (fail))
      refine wpQuiet_nil ?_
      rintro w5 ⟨⟨_, hb5⟩, rfl⟩
      clear C0 C1
      have hB5 := Lib.hid (on_ HBEL.out hb5)
      clear hb5
      go_wp2
      go_roundw
      case rel => exact ⟨j + 2, j + 1, rfl, .inl hlt, by go_num, hB5.out⟩
      case measure => simp [intOf]; omega
    · have hBe := Lib.hid (on_ hB2.out hbel)
      have hre := Lib.hid (hr2.out.on hbel)
      have kte := Lib.hid (kt2.out.on hbel)
      have hoe := Lib.hid (ho2.out.on hbel)
      have rt := kte.out.rule
      have hge : (L : Int) ≤ (j : Int) + 1 := by omega
      clear hbel hB2 hr2 kt2 HASC hjL hlt ho2
      go_wp2_with fail
      refine (HTO.out wr hre.out).mono ?_
      rintro e w3 ⟨rfl, hb3⟩
      have hB3 := Lib.hid (on_ hBe.out hb3)
      have hr3 := Lib.hid (hre.out.on hb3)
      have kt3 := Lib.hid (kte.out.on hb3)
      have ho3 := Lib.hid (hoe.out.on hb3)
      clear hb3 hBe hre kte hoe rt hge HTO
      rcases q2 with _ | _
      · have hx := HX0.out rfl
        have hL0 : L = 0 := by rw [← HL.out, hx]; rfl
        subst hL0
        clear hx HX0 HANY HSI
        go_wp2_with fail
        refine (tallies_any _).mono ?_
        rintro e wz ⟨rfl, hbz⟩
        have hBz := on_ hB3.out hbz
        go_wp2
        go_ret
        exact ⟨rfl, hBz⟩
      · have HA := Lib.hid (HANY.out rfl)
        clear HANY HX0
        go_wp2
        go_loopw [6, 7, 8] (fun i f5 i5 wr => ∃ k : Nat, k ≤ 10 ∧ i = .int .i64 k ∧ Below w3.heap.size w3 wr) (fun i _ _ _ => 10 - (intOf i).toNat)
        case atStart => exact ⟨0, by omega, rfl, Below.refl _ _⟩
        case round =>
          obtain ⟨k, hk10, rfl, hbel⟩ := hrel
          have hB4 := Lib.hid (on_ hB3.out hbel)
          have hr4 := Lib.hid (hr3.out.on hbel)
          have kt4 := Lib.hid (kt3.out.on hbel)
          have ho4 := Lib.hid (ho3.out.on hbel)
          have HBE := Lib.hid hbel
          clear hbel
          by_cases hk : k < 10
          · have hk9 : (k : Int) ≤ 9 := by omega
            have HE := Lib.hid (HA.out k (by omega))
            have HS := Lib.hid (fun W h => HSI.out k W (by omega) h)
            clear hk10
            go_wp2
            go_loopw [7, 8] (fun f5 i wt => ∃ j : Nat, j ≤ L ∧ i = .int .i64 j ∧ f5 = .bool ((xs.take j).any fun y => y == (k : Int)) ∧ Below wr.heap.size wr wt) (fun _ i _ => L - (intOf i).toNat)
            case atStart => exact ⟨0, Nat.zero_le _, rfl, rfl, Below.refl _ _⟩
            case round =>
              obtain ⟨j, hjl, rfl, rfl, hbl⟩ := hrel
              by_cases hj : j < L
              · obtain ⟨b, off, rfl, hb, hc0⟩ := RdI.at_ (ho4.out.below hbl) (k := j) (by rw [HL.out]; exact hj)
                have hsu : (xs.take (j + 1)).any (fun y => y == (k : Int)) = ((xs.take j).any (fun y => y == (k : Int)) || (xs.getD j 0 == (k : Int))) := by
                  rw [List.take_add_one, List.any_append, List.getD_eq_getElem?_getD, List.getElem?_eq_getElem (by rw [HL.out]; exact hj)]
                  simp
                have HSU := Lib.hid hsu
                have HBL := Lib.hid hbl
                have hjx : (j : Int) < (L : Int) := by omega
                clear hsu hbl hb
                generalize xs.getD j 0 = a at *
                generalize (xs.take j).any (fun y => y == (k : Int)) = q at *
                rcases q with _ | _
                · go_wp2
                  go_roundw
                  case rel => exact ⟨j + 1, hj, by go_num, by rw [HSU.out]; simp, HBL.out⟩
                  case measure => simp [intOf]; omega
                · clear hc0
                  go_wp2
                  go_roundw
                  case rel => exact ⟨j + 1, hj, by go_num, by rw [HSU.out]; simp, HBL.out⟩
                  case measure => simp [intOf]; omega
              · have hje : j = L := by omega
                subst hje
                have htk : (xs.take j) = xs := List.take_of_length_le (by rw [HL.out]; exact Nat.le_refl _)
                rw [htk]
                rw [HE.out]
                have hB5 := Lib.hid (on_ hB4.out hbl)
                have HB5 := Lib.hid (on_ HBE.out hbl)
                have hr5 := Lib.hid (hr4.out.on hbl)
                have kt5 := Lib.hid (kt4.out.on hbl)
                obtain ⟨sl, hsl⟩ : ∃ z, (silentR 7 vs (k : Int)).length = z := ⟨_, rfl⟩
                have hsl7 : (silentR 7 vs (k : Int)).length ≤ 1048576 := by
                  unfold silentR
                  split
                  · have := silentK_le vs (k : Int) (7 : Int).toNat
                    have e7 : (7 : Int).toNat = 7 := rfl
                    omega
                  · simp
                rw [hsl] at HS hsl7 ⊢
                clear hsl hbl HE htk HA HSI
                have hslx : sl ≤ 1048576 := hsl7
                have rt := kt5.out.rule
                rcases h7 : (sl == 7) with _ | _
                · have h77 : ¬ sl = 7 := by simpa using h7
                  have d7 : ((sl : Int) == 7) = false := by rw [beq_eq_false_iff_ne]; omega
                  rw [Bool.not_false]
                  clear h7
                  go_wp2_with fail
                  refine (HS.out wr hr5.out).mono ?_
                  rintro e w6 ⟨B5, d5, rfl, hb6⟩
                  have HB6 := Lib.hid (on_ HB5.out hb6)
                  clear hb6 HB5 hB5 hr5 kt5 rt HS
                  go_wp2
                  go_roundw
                  case rel => exact ⟨k + 1, hk, by go_num, HB6.out⟩
                  case measure => simp [intOf]; omega
                · have h7' : sl = 7 := by simpa using h7
                  subst h7'
                  rw [Bool.not_true]
                  clear h7
                  go_wp2_with fail
                  refine (HS.out wr hr5.out).mono ?_
                  rintro e w6 ⟨B5, d5, rfl, hb6⟩
                  have HB6 := Lib.hid (on_ HB5.out hb6)
                  clear hb6 HB5 hB5 hr5 kt5 rt HS
                  go_wp2
                  go_roundw
                  case rel => exact ⟨k + 1, hk, by go_num, HB6.out⟩
                  case measure => simp [intOf]; omega
          · have hke : k = 10 := by omega
            subst hke
            clear HA HSI hk hk10
            go_wp2_with fail
            refine (tallies_any _).mono ?_
            rintro e wz ⟨rfl, hbz⟩
            have hBz := on_ hB4.out hbz
            go_wp2
            go_ret
            exact ⟨rfl, hBz⟩

theorem closed : joinedFacts Try.prog 6 Try.f6 Rows.fnViewsSpec Rows.fnViewsRow = true := by
  unfold joinedFacts
  rw [D.make_is, D.enter_is, D.final_is]
  kernel_rfl

set_option maxRecDepth 100000 in
theorem lifted (os : Os) (started : os.Started) (H : Type) (enc : TypeId × Value → H) :
    ReturnsInHanded {} Try.checked os 6 .any (Rows.fnViewsSpec.pre6 enc Try.prog Try.f6 Rows.fnViewsRow.domain false) (Rows.fnViewsSpec.post enc Try.prog Try.f6 false true false false) := by
  refine returnsInHanded_of_change (C := Try.checked) D.own started (by kernel_rfl) Try.func6
    (ChangeSpec.witness6 (enc := enc) (C := Try.checked) false ⟨#[], #[.slice none 0 0], []⟩ 8 (by kernel_rfl) (by kernel_rfl) (by kernel_rfl) (by kernel_rfl)) ?_
  intro W base args ds gs before hval0 hW hcnd _
  have hval : ∀ (j : Nat) t v, Try.f6.params[j]? = some t → args[j]? = some v → Value.okWide Try.prog W .any base t v := hval0
  have hW' := hW
  obtain ⟨p, q, hA0, hV, rfl, hfz, hnd⟩ := hW
  have hA : DataW.TrodAll enc Try.prog W 0 (fun _ => true) true Try.f6.params.toList args.toList ds p := hA0
  rw [Try.params6] at hA hval
  obtain ⟨v0, d0, rfl, rfl, h0⟩ := trodAll_one hA
  obtain ⟨a0, len0, cap0, rfl⟩ := okWide_slice Try.underlying22 (hval 0 22 v0 rfl rfl)
  obtain ⟨fuel0, hf0⟩ := h0
  obtain ⟨Ab, nb, cb, hcs0, hmb, hrb⟩ := open_code hf0
  have hv0 : (Value.slice a0 len0 cap0) = .slice Ab nb cb := by simpa [Value.cells] using hcs0
  rw [hv0] at hW' ⊢
  refine (walk Ab nb cb hmb W hrb).mono fun e W' ⟨he, hb⟩ => ⟨_, he, law_post D.laidOut hW' hb rfl (by kernel_rfl) Try.underlying4 (by kernel_rfl) rfl⟩

theorem over : Rows.fnViewsRow.holds Try.pinned (OpenSpec.ofChange Rows.fnViewsSpec) :=
  OpenClaim.holds_of_wide 6 Try.f6 rfl rfl rfl rfl rfl rfl rfl ⟨rfl, rfl, rfl, rfl, rfl⟩ rfl rfl rfl rfl rfl (by kernel_rfl) Try.func6 closed
    (of_decide_eq_true (by kernel_rfl)) (by unfold Func.isWrapper; first | (rw [if_pos (by decide +kernel)]; kernel_rfl) | (rw [if_neg (by decide +kernel)]; exact ⟨rfl, rfl⟩))
    (fun os started H enc _ => lifted os started H enc)

theorem proved : Rows.FnViewsSaid :=
  over
end Go.Proofs.Ytaegcdbgnjlbdaa.fnViews
