/-
  Proved here: for whatever bytes of a draw, the law FnSafeVals (the safe values are told completely and in order, and the chosen value is among them) answers true. No condition.
-/
import Derived.Test.YtcfjmhebhhekbaaRows
import Derived.Test.YtcfjmhebhhekbaaDoor
import Derived.Test.YtcfjmhebhhekbaaDraws3
import Derived.Test.YtcfjmhebhhekbaaRSpec
import Derived.Test.YtcfjmhebhhekbaaRImpl
import Derived.Test.YtcfjmhebhhekbaaReports
import Derived.Test.YtcfjmhebhhekbaaRepCh
import Derived.Test.YtcfjmhebhhekbaaLift
set_option linter.unusedVariables false
set_option maxRecDepth 100000
namespace Go.Proofs.Ytcfjmhebhhekbaa.fnSafeVals
open Go.RowKit Go.ChangeShapes Go.WideShapes Go.Proofs.Ytcfjmhebhhekbaa.B Go.Proofs.Ytcfjmhebhhekbaa.V

theorem svK_false : ∀ m, svK (fun _ => false) m = []
  | 0 => rfl
  | m + 1 => by rw [svK_step, svK_false m]; rfl
theorem svT_eq (n view : Int) (rs : List Rp) : safeVT n view rs = svK (fun v => safeT n view rs v) 60 := by
  unfold safeVT
  rcases hq : repsOkB n view rs with _ | _
  · simp only [Bool.false_eq_true, if_false]
    rw [svK_congr (g := fun _ => false) 60 (fun i _ _ => by simp [safeT, hq]), svK_false]
  · simp only [if_true]
    exact svK_congr 60 fun i h1 h2 => by
      have : valOkB (i : Int) = true := by unfold valOkB; simp; omega
      simp [safeT, hq, this]
theorem svK_pre (ok : Int → Bool) (j : Nat) : ∀ m, j ≤ m → ∃ t, svK ok m = svK ok j ++ t
  | 0, h => ⟨[], by rw [show j = 0 by omega]; simp⟩
  | m + 1, h => by
    by_cases e : j = m + 1
    · exact ⟨[], by rw [e]; simp⟩
    · obtain ⟨t, ht⟩ := svK_pre ok j m (by omega)
      exact ⟨t ++ (if ok ((m + 1 : Nat) : Int) then [((m + 1 : Nat) : Int)] else []), by rw [svK_step, ht, List.append_assoc]⟩
theorem svK_hit (ok : Int → Bool) (j : Nat) (hj : j < 60) (h : ok ((j + 1 : Nat) : Int) = true) : (svK ok j).length < (svK ok 60).length ∧ (svK ok 60).getD (svK ok j).length 0 = ((j + 1 : Nat) : Int) := by
  obtain ⟨t, ht⟩ := svK_pre ok (j + 1) 60 (by omega)
  have h2 : svK ok (j + 1) = svK ok j ++ [((j + 1 : Nat) : Int)] := by rw [svK_step, if_pos h]
  rw [h2] at ht
  rw [ht]
  refine ⟨by simp, ?_⟩
  rw [List.getD_eq_getElem?_getD, List.append_assoc, List.getElem?_append_right (Nat.le_refl _)]
  simp
theorem svK_mem (ok : Int → Bool) : ∀ (m i : Nat), 1 ≤ i → i ≤ m → ok (i : Int) = true → (i : Int) ∈ svK ok m
  | 0, i, h1, h2, _ => by omega
  | m + 1, i, h1, h2, h => by
    rw [svK_step]
    by_cases e : i = m + 1
    · subst e; rw [if_pos h]; simp
    · exact List.mem_append_left _ (svK_mem ok m i h1 (by omega) h)
theorem by_from (n view from_ : Int) (rs : List Rp) (h : (byT n view rs from_).2 = true) : (byT n view rs from_).1.f = from_ := by
  rcases hq : repsOkB n view rs with _ | _
  · simp [byT, hq] at h
  · rcases hf : rs.find? (fun r => decide (r.f = from_)) with _ | r
    · simp [byT, hq, hf] at h
    · have := List.find?_some hf
      simp only [byT, hq, hf, if_true]
      simpa using this
set_option maxHeartbeats 1600000 in
theorem walk (A : Option Addr) (nb c : Nat) (hm : nb ≤ maxLen) (w : World) (hr : RdC w w.heap.size A nb) :
    Calls Try.prog 5 #[.slice A nb c] w fun e w' => e = .returned (.bool true) ∧ Below w.heap.size w w' := by
  have HD := Lib.hid (drawSafeVals_any A nb c hm w hr)
  have HRC := Lib.hid hr
  clear hr
  go_enter Try.func5, Try.ntmps5
  go_wp2_with fail
  refine HD.out.mono ?_
  rintro e w1 ⟨n, view, B, d, ps, rfl, hok, hr1, hB1⟩
  have hf := hok.few
  have hr1 := Lib.hid hr1
  have hB1 := Lib.hid hB1
  obtain ⟨ok, hok2⟩ : ∃ ok : Int → Bool, (fun v => safeT n view (rl ps) v) = ok := ⟨_, rfl⟩
  have hokv : ∀ v, safeT n view (rl ps) v = ok v := fun v => congrFun hok2 v
  have hxs : safeVT n view (rl ps) = svK ok 60 := by rw [svT_eq, hok2]
  have HSV : Hid (∀ W, RdR W W.heap.size B ps → Calls Try.prog 22 #[.int .i64 n, .int .i64 view, .slice B ps.length d] W (NRes2 (svK ok 60) W)) := fun W h => by
    have := (implSafeVals_any n view B d ps _ rfl W h hf).mono fun _ _ => nres_of
    rwa [hxs] at this
  have HSA : Hid (∀ v W, RdR W W.heap.size B ps → Calls Try.prog 13 #[.int .i64 n, .int .i64 view, .slice B ps.length d, .int .i64 v] W fun e w' => e = .returned (.bool (ok v)) ∧ Below W.heap.size W w') := fun v W h => by
    have := implSafe_any n view v B d ps _ rfl W h hf
    rwa [hokv] at this
  obtain ⟨cv, cq, hch⟩ : ∃ cv cq, chooseT n view (rl ps) 5 = (cv, cq) := ⟨_, _, rfl⟩
  have HCH : Hid (∀ W, RdR W W.heap.size B ps → Calls Try.prog 23 #[.int .i64 n, .int .i64 view, .slice B ps.length d, .int .i64 5] W fun e w' => e = .returned (.tuple #[.int .i64 cv, .bool cq]) ∧ Below W.heap.size W w') := fun W h => by
    have := implChoose_any n view 5 B d ps _ rfl W h hf
    rwa [hch] at this
  have hcm : cq = true → cv ∈ svK ok 60 := fun h => by
    have := choose_facts n view 5 (rl ps)
    rw [hch] at this
    rcases this with ⟨h1, _⟩ | ⟨_, h2, _⟩
    · simp only at h1; rw [h1] at h; cases h
    · simp only at h2
      have hv : valOkB cv = true := by
        unfold safeT at h2
        simp only [Bool.and_eq_true] at h2
        first | exact h2.1.2 | exact h2.2.1
      simp only [valOkB, decide_eq_true_eq] at hv
      rw [hokv] at h2
      obtain ⟨i, rfl⟩ : ∃ i : Nat, cv = i := ⟨cv.toNat, by omega⟩
      exact svK_mem ok 60 i (by omega) (by omega) h2
  have HIT := Lib.hid (svK_hit ok)
  have HST := Lib.hid (svK_step ok)
  have HXL : (svK ok 60).length ≤ 60 := svK_le ok 60
  have HLE := Lib.hid (svK_le ok)
  have HNV := Lib.hid hcm
  clear hok hf hok2 hokv hxs hch hcm
  go_wp2_with fail
  refine (HSV.out _ hr1.out).mono ?_
  rintro e w2 ⟨B2, d2, rfl, ho2, hb2⟩
  have hr2 := Lib.hid (hr1.out.on hb2)
  have hB2 := Lib.hid (on_ hB1.out hb2)
  have ho2 := Lib.hid ho2.rd
  obtain ⟨xs, hxs⟩ : ∃ xs, svK ok 60 = xs := ⟨_, rfl⟩
  rw [hxs] at HXL HIT HNV ho2 ⊢
  have HX := Lib.hid hxs
  clear hb2 hr1 hB1 HSV HD hxs
  obtain ⟨L, hL⟩ : ∃ L, xs.length = L := ⟨_, rfl⟩
  have HL := Lib.hid hL
  rw [hL] at HXL HIT ⊢
  clear hL
  go_wp2
  go_loopw [7, 8] (fun kk i wr => ∃ (j : Nat) (K i1 : Nat), j ≤ 60 ∧ Hid (i1 = j + 1) ∧ i = .int .i64 i1 ∧ Hid ((svK ok j).length = K) ∧ kk = .int .i64 K ∧ Below w2.heap.size w2 wr) (fun _ i _ => 61 - (intOf i).toNat)
  case atStart => exact ⟨0, 0, 1, by omega, rfl, rfl, rfl, rfl, Below.refl _ _⟩
  case round =>
    obtain ⟨j, K, i1, hj, hi1, rfl, hK, rfl, hbel⟩ := hrel
    have hi1' := hi1.out
    by_cases hlt : j < 60
    · have hle : (i1 : Int) ≤ 60 := by omega
      have hKb := HLE.out j
      rw [hK.out] at hKb
      have hrr := hr2.out.on hbel
      have HBEL := Lib.hid hbel
      have HS := Lib.hid (HSA.out (i1 : Int) wr hrr)
      obtain ⟨q, hq⟩ : ∃ q, ok (i1 : Int) = q := ⟨_, rfl⟩
      rw [hq] at HS
      have hst := HST.out j
      rw [← hi1'] at hst
      rw [hq] at hst
      rcases q with _ | _
      · have hn : (svK ok i1).length = K := by rw [hst, List.length_append, hK.out]; simp
        have HN := Lib.hid hn
        clear hq hst hn hbel hrr hi1'
        go_wp2_with fail
        refine HS.out.mono ?_
        rintro e w3 ⟨rfl, hb3⟩
        have hB3 := Lib.hid (on_ HBEL.out hb3)
        clear hb3
        go_wp2
        go_roundw
        case rel => exact ⟨j + 1, K, i1 + 1, by omega, by show _ = _; rw [hi1.out], by go_num, by show _ = _; rw [← hi1.out]; exact HN.out, rfl, hB3.out⟩
        case measure => simp [intOf]; omega
      · have hhit := HIT.out j hlt (by rw [← hi1']; exact hq)
        rw [hK.out, ← hi1'] at hhit
        have hn : (svK ok i1).length = K + 1 := by rw [hst, List.length_append, hK.out]; simp
        have HN := Lib.hid hn
        obtain ⟨hKL, hval⟩ := hhit
        have hKL' : (K : Int) < (L : Int) := by omega
        have HV := Lib.hid hval
        clear hq hst hn hbel hrr hi1' hval
        go_wp2_with fail
        refine HS.out.mono ?_
        rintro e w3 ⟨rfl, hb3⟩
        have hB3 := Lib.hid (on_ HBEL.out hb3)
        obtain ⟨b, off, rfl, hb, hc0⟩ := RdI.at_ (ho2.out.below hB3.out) (k := K) (by rw [HL.out]; exact hKL)
        rw [HV.out] at hc0
        have hne : ((i1 : Int) != (i1 : Int)) = false := by simp
        clear hb3 HSA HCH HST HLE HNV HX HIT HS HV HRC
        go_wp2_with fail
        exact ⟨⟨j + 1, K + 1, i1 + 1, by omega, by show _ = _; rw [hi1.out], by go_num, by show _ = _; rw [← hi1.out]; exact HN.out, by go_num, hB3.out⟩, by simp [intOf]; omega⟩
    · obtain rfl : j = 60 := by omega
      have hgt : ¬ (i1 : Int) ≤ 60 := by omega
      have hKL : K = L := by have h := hK.out; rw [HX.out, HL.out] at h; exact h.symm
      subst hKL
      have hr3 := Lib.hid (hr2.out.on hbel)
      have hB3 := Lib.hid (on_ hB2.out hbel)
      have ho3 := Lib.hid (ho2.out.on hbel)
      clear hbel hr2 hB2 ho2 HIT HST HLE HSA hi1' hK
      go_wp2_with fail
      refine (HCH.out _ hr3.out).mono ?_
      rintro e w4 ⟨rfl, hb4⟩
      have hB4 := Lib.hid (on_ hB3.out hb4)
      have ho4 := Lib.hid (ho3.out.on hb4)
      clear hb4 hr3 hB3 ho3 HCH
      have HDR := Lib.hid (fun (W : World) (h : Below w.heap.size w W) => drawReportBy_any A nb c hm W ((HRC.out.below h).more h.size))
      rcases cq with _ | _
      · clear HNV
        go_wp2_with fail
        refine (HDR.out _ hB4.out).mono ?_
        rintro e w6 ⟨n2, view2, C, dc, ms, fr, hfr1, hfr2, rfl, hok6, hr6, hb6⟩
        have hB6 := Lib.hid (on_ hB4.out hb6)
        have HBY := Lib.hid (implBy_any n view fr C dc ms _ rfl w6 hr6 hok6.few)
        have HFR := Lib.hid (by_from n view fr (rl ms))
        obtain ⟨⟨⟨f, v, x, vs⟩, q⟩, hby⟩ : ∃ z, byT n view (rl ms) fr = z := ⟨_, rfl⟩
        rw [hby] at HBY HFR
        clear hb6 hr6 hok6 hby HDR
        go_wp2_with fail
        refine HBY.out.mono ?_
        rintro e w7 ⟨B7, d7, rfl, hown7, hb7⟩
        have hB7 := Lib.hid (on_ hB6.out hb7)
        have hB8 := Lib.hid (up_ hB7.out (.cells #[.int .i64 f, .int .i64 v, .int .i64 x, .slice B7 vs.length d7] 28))
        have hkk : ∀ z : Int, (z == z) = true := fun z => by simp
        clear hb7 hown7
        rcases q with _ | _
        · go_wp2_with fail
          refine (reports_is _).mono ?_
          rintro e w9 ⟨rfl, hb9⟩
          have hB9 := on_ hB8.out hb9
          go_wp2
          go_ret
          exact ⟨rfl, hB9⟩
        · have hff : (f == fr) = true := by have := HFR.out rfl; simpa using this
          go_wp2_with fail
          refine (reports_is _).mono ?_
          rintro e w9 ⟨rfl, hb9⟩
          have hB9 := on_ hB8.out hb9
          go_wp2
          go_ret
          exact ⟨rfl, hB9⟩
      · have hmem := HNV.out rfl
        go_wp2
        go_loopw [11, 12] (fun fo i wr => ∃ (k : Nat), k ≤ K ∧ i = .int .i64 k ∧ fo = .bool ((xs.take k).any (fun y => y == cv)) ∧ Below w4.heap.size w4 wr) (fun _ i _ => K - (intOf i).toNat)
        case atStart => exact ⟨0, Nat.zero_le _, rfl, rfl, Below.refl _ _⟩
        case round =>
          obtain ⟨k, hk, rfl, rfl, hbel⟩ := hrel
          by_cases hlt : k < K
          · obtain ⟨b, off, rfl, hb, hc0⟩ := RdI.at_ (ho4.out.below hbel) (k := k) (by rw [HL.out]; exact hlt)
            have hta := take_any (fun y => y == cv) xs 0 k (by rw [HL.out]; exact hlt)
            generalize xs.getD k 0 = y at *
            generalize (xs.take k).any (fun y => y == cv) = fo at *
            have hlt' : (k : Int) < (K : Int) := by omega
            obtain ⟨q, hq⟩ : ∃ q, (y == cv) = q := ⟨_, rfl⟩
            have hta : (xs.take (k + 1)).any (fun y => y == cv) = (fo || q) := by rw [hta, hq]
            have HTA := Lib.hid hta
            clear hta hb
            rcases fo with _ | _ <;> rcases q with _ | _
            all_goals
              go_wp2
              go_roundw
              case rel => exact ⟨k + 1, by omega, by go_num, by rw [HTA.out]; rfl, hbel⟩
              case measure => simp [intOf]; omega
          · obtain rfl : k = K := by omega
            have hfo : (xs.take k).any (fun y => y == cv) = true := by
              rw [List.take_of_length_le (by rw [HL.out]; exact Nat.le_refl _)]
              exact List.any_eq_true.2 ⟨cv, hmem, by simp⟩
            rw [hfo]
            have hB5 := Lib.hid (on_ hB4.out hbel)
            clear hfo hmem hbel
            go_wp2_with fail
            refine (HDR.out _ hB5.out).mono ?_
            rintro e w6 ⟨n2, view2, C, dc, ms, fr, hfr1, hfr2, rfl, hok6, hr6, hb6⟩
            have hB6 := Lib.hid (on_ hB5.out hb6)
            have HBY := Lib.hid (implBy_any n view fr C dc ms _ rfl w6 hr6 hok6.few)
            have HFR := Lib.hid (by_from n view fr (rl ms))
            obtain ⟨⟨⟨f, v, x, vs⟩, q⟩, hby⟩ : ∃ z, byT n view (rl ms) fr = z := ⟨_, rfl⟩
            rw [hby] at HBY HFR
            clear hb6 hr6 hok6 hby HDR
            go_wp2_with fail
            refine HBY.out.mono ?_
            rintro e w7 ⟨B7, d7, rfl, hown7, hb7⟩
            have hB7 := Lib.hid (on_ hB6.out hb7)
            have hB8 := Lib.hid (up_ hB7.out (.cells #[.int .i64 f, .int .i64 v, .int .i64 x, .slice B7 vs.length d7] 28))
            have hkk : ∀ z : Int, (z == z) = true := fun z => by simp
            clear hb7 hown7
            rcases q with _ | _
            · go_wp2_with fail
              refine (reports_is _).mono ?_
              rintro e w9 ⟨rfl, hb9⟩
              have hB9 := on_ hB8.out hb9
              go_wp2
              go_ret
              exact ⟨rfl, hB9⟩
            · have hff : (f == fr) = true := by have := HFR.out rfl; simpa using this
              go_wp2_with fail
              refine (reports_is _).mono ?_
              rintro e w9 ⟨rfl, hb9⟩
              have hB9 := on_ hB8.out hb9
              go_wp2
              go_ret
              exact ⟨rfl, hB9⟩

theorem closed : joinedFacts Try.prog 5 Try.f5 Rows.fnSafeValsSpec Rows.fnSafeValsRow = true := by
  unfold joinedFacts
  rw [D.make_is, D.enter_is, D.final_is]
  kernel_rfl

set_option maxRecDepth 100000 in
theorem lifted (os : Os) (started : os.Started) (H : Type) (enc : TypeId × Value → H) :
    ReturnsInHanded {} Try.checked os 5 .any (Rows.fnSafeValsSpec.pre6 enc Try.prog Try.f5 Rows.fnSafeValsRow.domain false) (Rows.fnSafeValsSpec.post enc Try.prog Try.f5 false true false false) := by
  refine returnsInHanded_of_change (C := Try.checked) D.own started (by kernel_rfl) Try.func5
    (ChangeSpec.witness6 (enc := enc) (C := Try.checked) false ⟨#[], #[.slice none 0 0], []⟩ 8 (by kernel_rfl) (by kernel_rfl) (by kernel_rfl) (by kernel_rfl)) ?_
  intro W base args ds gs before hval0 hW hcnd _
  have hval : ∀ (j : Nat) t v, Try.f5.params[j]? = some t → args[j]? = some v → Value.okWide Try.prog W .any base t v := hval0
  have hW' := hW
  obtain ⟨p, q, hA0, hV, rfl, hfz, hnd⟩ := hW
  have hA : DataW.TrodAll enc Try.prog W 0 (fun _ => true) true Try.f5.params.toList args.toList ds p := hA0
  rw [Try.params5] at hA hval
  obtain ⟨v0, d0, rfl, rfl, h0⟩ := trodAll_one hA
  obtain ⟨a0, len0, cap0, rfl⟩ := okWide_slice Try.underlying22 (hval 0 22 v0 rfl rfl)
  obtain ⟨fuel0, hf0⟩ := h0
  obtain ⟨Ab, nb, cb, hcs0, hmb, hrb⟩ := open_code hf0
  have hv0 : (Value.slice a0 len0 cap0) = .slice Ab nb cb := by simpa [Value.cells] using hcs0
  rw [hv0] at hW' ⊢
  refine (walk Ab nb cb hmb W hrb).mono fun e W' ⟨he, hb⟩ => ⟨_, he, law_post D.laidOut hW' hb rfl (by kernel_rfl) Try.underlying4 (by kernel_rfl) rfl⟩

theorem over : Rows.fnSafeValsRow.holds Try.pinned (OpenSpec.ofChange Rows.fnSafeValsSpec) :=
  OpenClaim.holds_of_wide 5 Try.f5 rfl rfl rfl rfl rfl rfl rfl ⟨rfl, rfl, rfl, rfl, rfl⟩ rfl rfl rfl rfl rfl (by kernel_rfl) Try.func5 closed
    (of_decide_eq_true (by kernel_rfl)) (by unfold Func.isWrapper; first | (rw [if_pos (by decide +kernel)]; kernel_rfl) | (rw [if_neg (by decide +kernel)]; exact ⟨rfl, rfl⟩))
    (fun os started H enc _ => lifted os started H enc)

theorem proved : Rows.FnSafeValsSaid :=
  over
end Go.Proofs.Ytcfjmhebhhekbaa.fnSafeVals
