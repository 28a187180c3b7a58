/-
  ReportBy and AddReport of the model: contracts. No statement is proved here.
-/
import Derived.Test.YtcfjmhebhhekbaaRMath
import Derived.Test.YtcfjmhebhhekbaaL3Draw
set_option linter.unusedVariables false
set_option maxRecDepth 100000
namespace Go.Proofs.Ytcfjmhebhhekbaa.V
open Go.RowKit Go.Proofs.Ytcfjmhebhhekbaa.B

theorem find_at : ∀ (rs : List Rp) (P : Rp → Bool) (k : Nat), k < rs.length → (∀ j, j < k → P (rs.getD j zR) = false) → P (rs.getD k zR) = true → rs.find? P = some (rs.getD k zR)
  | [], _, k, hk, _, _ => by simp at hk
  | r :: rs, P, 0, _, _, h => List.find?_cons_of_pos h
  | r :: rs, P, k + 1, hk, hn, h => by
    rw [List.find?_cons_of_neg (by have := hn 0 (by omega); simpa using this)]
    exact find_at rs P k (by simpa using hk) (fun j hj => by simpa using hn (j + 1) (by omega)) (by simpa using h)
theorem one_rd {w : World} {Bd b off k : Nat} {ps : List Pp} (h : RdR w Bd (some ⟨b, off, none⟩) ps) (hk : k < ps.length) : RdR w Bd (some ⟨b, off + k * 4, none⟩) [ps.getD k zP] := fun _ => by
  obtain ⟨b', off', e, hb, hc⟩ := h (by omega)
  injection e with e
  injection e with e1 e2
  subst e1 e2
  refine ⟨b, off + k * 4, rfl, hb, fun i hi => ?_⟩
  have hi0 : i = 0 := by simpa using hi
  subst hi0
  have := hc k hk
  simpa using this
set_option maxHeartbeats 1600000 in
theorem specBy_any (n view from_ : Int) (A : Option Addr) (c : Nat) (ps : List Pp) (rs : List Rp) (e0 : rl ps = rs) (w : World) (hr : RdR w w.heap.size A ps) (hf : Few ps) (hc : ps.length ≤ c) :
    Calls Try.prog 36 #[.int .i64 n, .int .i64 view, .slice A ps.length c, .int .i64 from_] w fun e w' => ∃ B d, e = .returned (.tuple #[.agg #[.int .i64 (byT n view rs from_).1.f, .int .i64 (byT n view rs from_).1.v, .int .i64 (byT n view rs from_).1.x, .slice B (byT n view rs from_).1.vs.length d], .bool (byT n view rs from_).2]) ∧ Rd w' w'.heap.size B (byT n view rs from_).1.vs ∧ Below w.heap.size w w' := by
  subst e0
  have kz := Blk.new w 28 #[.int .i64 0, .int .i64 0, .int .i64 0, .slice none 0 0]
  have hB0 : Below w.heap.size w (w.alloc (.cells #[.int .i64 0, .int .i64 0, .int .i64 0, .slice none 0 0] 28)) := up_ (Below.refl _ _) _
  have hr0 := hr.on hB0
  obtain ⟨q1, hq1⟩ : ∃ q, repsOkB n view (rl ps) = q := ⟨_, rfl⟩
  have HQ1 := Lib.hid (specReportsOk_is q1 n view A c ps hq1 _ hr0 hf)
  have HR0 := Lib.hid hr0
  have HB0 := Lib.hid hB0
  have HKZ := Lib.hid kz
  have HF := Lib.hid hf
  clear hr hr0 hB0 kz hf
  rcases q1 with _ | _
  · have hz1 : byT n view (rl ps) from_ = (zR, false) := by rw [byT, hq1]; rfl
    rw [hz1]
    clear hz1 hq1
    go_enter Try.func36, Try.ntmps36
    go_wp2_with fail
    refine HQ1.out.mono ?_
    rintro e w1 ⟨rfl, hb1⟩
    have kz1 := HKZ.out.on hb1
    have rz1 := kz1.rule
    have fz1 := fun i => kz1.frozen i
    have rz8 := ((((kz1.set_ 0 (.int .i64 0)).set_ 1 (.int .i64 0)).set_ 2 (.int .i64 0)).set_ 3 (.slice none 0 0)).rule
    have hB1 := on_ HB0.out hb1
    go_wp2
    refine bodyPost_ret (v := .tuple #[.agg #[.int .i64 0, .int .i64 0, .int .i64 0, .slice none 0 0], .bool false]) (by simp [results, Try.results36, go_sem, rz8]) rfl ⟨none, 0, rfl, Rd.nil_, ?_⟩
    exact (((hB1.setCell (by simp) _).setCell (by simp) _).setCell (by simp) _).setCell (by simp) _
  · obtain ⟨m, hvm⟩ : ∃ m, ps.length = m := ⟨_, rfl⟩
    have HBY : Hid (byT n view (rl ps) from_ = (match (rl ps).find? (fun r => decide (r.f = from_)) with | some r => (r, true) | none => (zR, false))) := by show _ = _; rw [byT, hq1]; rfl
    have HSM := Lib.hid HF.out.2
    have hm := HF.out.1
    rw [hvm] at hc HQ1 HSM hm ⊢
    have HV := Lib.hid hvm
    clear hq1 hvm HF
    go_enter Try.func36, Try.ntmps36
    go_wp2_with fail
    refine HQ1.out.mono ?_
    rintro e w1 ⟨rfl, hb1⟩
    have HK1 := Lib.hid (HKZ.out.on hb1)
    have HR1 := Lib.hid (HR0.out.on hb1)
    have HB1 := Lib.hid (on_ HB0.out hb1)
    have hzl : w.heap.size < w1.heap.size := HK1.out.lt
    clear hb1 HQ1 HKZ HR0 HB0
    go_wp2
    go_loop [10] (fun i => ∃ k : Nat, k ≤ m ∧ i = .int .i64 k ∧ Hid (∀ j, j < k → ((rl ps).getD j zR).f ≠ from_)) (fun i => m - (intOf i).toNat)
    case atStart => exact ⟨0, Nat.zero_le _, rfl, fun j hj => absurd hj (by omega)⟩
    case round =>
      obtain ⟨k, hk, rfl, hno⟩ := hrel
      by_cases hlt : k < m
      · obtain ⟨b, off, rfl, hb, hc0, -⟩ := HR1.out.at_ (k := k) (by rw [HV.out]; exact hlt)
        obtain ⟨z, hz⟩ : ∃ z, (ps.getD k zP).r.f = z := ⟨_, rfl⟩
        rw [hz] at hc0
        by_cases he : z = from_
        · have he' : (z == from_) = true := by simpa using he
          have hone := one_rd HR1.out (k := k) (by rw [HV.out]; exact hlt)
          have hfnd : (rl ps).find? (fun r => decide (r.f = from_)) = some (ps.getD k zP).r := by
            rw [← rl_at]
            exact find_at (rl ps) _ k (by rw [rl_len, HV.out]; exact hlt) (fun j hj => by simpa using hno.out j hj) (by rw [rl_at, hz]; simpa using he)
          have hby : byT n view (rl ps) from_ = ((ps.getD k zP).r, true) := by rw [HBY.out, hfnd]
          have hsm := HSM.out k hlt
          have HBY2 := Lib.hid hby
          obtain ⟨P, hP⟩ : ∃ P, ps.getD k zP = P := ⟨_, rfl⟩
          rw [hP] at hone hby hsm
          have HBY3 := Lib.hid hby
          have hkc1 : k < c := by omega
          have hkc2 : ¬ c ≤ k := by omega
          have hkc3 : (k : Int) + 1 ≤ (c : Int) := by omega
          have hkc4 : (k : Int) < (c : Int) := by omega
          have hW : IntKind.i64.wrap ((k : Int) + 1) = (k : Int) + 1 := IntWalk.i64_in _ (by omega)
          clear he hfnd hz hP hby HBY2 hno
          go_wp2_with fail
          refine (l3ownAll_any (some ⟨b, off + k * 4, none⟩) (c - k) [P] w1 hone (by simp) (fun i hi => by have hi0 : i = 0 := (by simpa using hi); subst hi0; show P.r.vs.length ≤ 1048577; omega)).mono ?_
          rintro e w4 ⟨v4, qs, rfl, hrl, hown, hvs, hb4⟩
          have hql : qs.length = 1 := by rw [← rl_len, hrl, rl_len]; rfl
          obtain ⟨A4, d4, rfl, -⟩ := formA hown
          have hr4 := (RdR.of_own hown hvs.rd).2
          obtain ⟨g4, off4, rfl, hg4, c40, c41, c42, c43, hrv4⟩ := hr4.at_ (k := 0) (by omega)
          have hq0 : (qs.getD 0 zP).r = P.r := by rw [← rl_at, hrl, rl_at]; rfl
          rw [hq0] at c40 c41 c42 c43 hrv4
          obtain ⟨⟨⟨f, v, x, vs⟩, PA, pc⟩, hP2⟩ : ∃ u, P = u := ⟨_, rfl⟩
          rw [hP2] at c40 c41 c42 c43 hrv4 HBY3
          simp only [Nat.zero_mul, Nat.add_zero] at c40 c41 c42 c43
          rw [hql]
          have kz4 := HK1.out.on hb4
          have rz4 := kz4.rule
          have fz4 := fun i => kz4.frozen i
          have hg8 : w4.grownBy ((((w4.setCell ⟨w.heap.size, 0, none⟩ (.int .i64 f)).setCell ⟨w.heap.size, 1, none⟩ (.int .i64 v)).setCell ⟨w.heap.size, 2, none⟩ (.int .i64 x)).setCell ⟨w.heap.size, 3, none⟩ (.slice (qs.getD 0 zP).A vs.length (qs.getD 0 zP).c)) (some w.heap.size) := only_setI (only_setI (only_setI (only_setI (World.grownBy.refl w4 (some w.heap.size)) _ _) _ _) _ _) _ _
          have hrd8 := (hvs.grown hg8 (fun g e => by injection e with e; subst e; exact ⟨_, kz4⟩) (by decide)).rd 0 (by omega)
          rw [hq0, hP2] at hrd8
          clear hg8
          generalize (qs.getD 0 zP).A = A5 at *
          generalize (qs.getD 0 zP).c = d5 at *
          have HRD8 := Lib.hid hrd8
          clear hrd8
          have rz8 := ((((kz4.set_ 0 (.int .i64 f)).set_ 1 (.int .i64 v)).set_ 2 (.int .i64 x)).set_ 3 (.slice A5 vs.length d5)).rule
          have hB4 := on_ HB1.out hb4
          have HRV4 := Lib.hid hrv4
          have hg4' : g4 < w4.heap.size := hg4
          clear hown hvs hr4 hrv4 hP2 hone hrl hq0 kz4
          go_wp2
          refine bodyPost_ret (v := .tuple #[.agg #[.int .i64 f, .int .i64 v, .int .i64 x, .slice A5 vs.length d5], .bool true]) (by simp [results, Try.results36, go_sem, rz8]) rfl ?_
          rw [HBY3.out]
          have hB8 : Below w.heap.size w ((((w4.setCell ⟨w.heap.size, 0, none⟩ (.int .i64 f)).setCell ⟨w.heap.size, 1, none⟩ (.int .i64 v)).setCell ⟨w.heap.size, 2, none⟩ (.int .i64 x)).setCell ⟨w.heap.size, 3, none⟩ (.slice A5 vs.length d5)) := (((hB4.setCell (by simp) _).setCell (by simp) _).setCell (by simp) _).setCell (by simp) _
          first | exact ⟨A5, d5, rfl, HRD8.out, hB8⟩ | exact ⟨A5, ⟨d5, rfl⟩, HRD8.out, hB8⟩
        · have he' : (z == from_) = false := by simpa using he
          have HNO : Hid (∀ j, j < k + 1 → ((rl ps).getD j zR).f ≠ from_) := fun j hj => by
            by_cases e : j = k
            · subst e; rw [rl_at, hz]; exact he
            · exact hno.out j (by omega)
          clear he hz hno
          go_wp2
          go_round
          case rel => exact ⟨k + 1, by omega, by go_num, HNO⟩
          case measure => simp [intOf]; omega
      · obtain rfl : k = m := by omega
        have hf : decide ((k : Int) < (k : Int)) = false := by simp
        have hfnd : (rl ps).find? (fun r => decide (r.f = from_)) = none := by
          rw [List.find?_eq_none]
          intro r hr
          obtain ⟨i, hi, rfl⟩ := mem_getDR hr
          rw [rl_len, HV.out] at hi
          simpa using hno.out i hi
        have hby : byT n view (rl ps) from_ = (zR, false) := by rw [HBY.out, hfnd]
        have kz1 := HK1.out
        have rz1 := kz1.rule
        have fz1 := fun i => kz1.frozen i
        have rz8 := ((((kz1.set_ 0 (.int .i64 0)).set_ 1 (.int .i64 0)).set_ 2 (.int .i64 0)).set_ 3 (.slice none 0 0)).rule
        have HBY3 := Lib.hid hby
        clear hfnd hby hno
        go_wp2
        refine bodyPost_ret (v := .tuple #[.agg #[.int .i64 0, .int .i64 0, .int .i64 0, .slice none 0 0], .bool false]) (by simp [results, Try.results36, go_sem, rz8]) rfl ?_
        rw [HBY3.out]
        have hB8 : Below w.heap.size w ((((w1.setCell ⟨w.heap.size, 0, none⟩ (.int .i64 0)).setCell ⟨w.heap.size, 1, none⟩ (.int .i64 0)).setCell ⟨w.heap.size, 2, none⟩ (.int .i64 0)).setCell ⟨w.heap.size, 3, none⟩ (.slice none 0 0)) := (((HB1.out.setCell (by simp) _).setCell (by simp) _).setCell (by simp) _).setCell (by simp) _
        first | exact ⟨none, 0, rfl, Rd.nil_, hB8⟩ | exact ⟨none, ⟨0, rfl⟩, Rd.nil_, hB8⟩
set_option maxHeartbeats 1600000 in
theorem specAdd_any (n view : Int) (A : Option Addr) (c : Nat) (ps : List Pp) (rs : List Rp) (e0 : rl ps = rs) (f v x : Int) (RA : Option Addr) (rc : Nat) (vs : List (Int × Int)) (w : World) (hr : RdR w w.heap.size A ps) (hf : Few ps) (hc : ps.length ≤ c) (hrv : Rd w w.heap.size RA vs) (hvl : vs.length ≤ 1048576) :
    Calls Try.prog 28 #[.int .i64 n, .int .i64 view, .slice A ps.length c, .agg #[.int .i64 f, .int .i64 v, .int .i64 x, .slice RA vs.length rc]] w fun e w' => ∃ B d us, e = .returned (.tuple #[.slice B us.length d, .bool (addT n view rs ⟨f, v, x, vs⟩).2]) ∧ rl us = (addT n view rs ⟨f, v, x, vs⟩).1 ∧ RdR w' w'.heap.size B us ∧ Below w.heap.size w w' := by
  subst e0
  have kb := Blk.new w 28 #[.int .i64 f, .int .i64 v, .int .i64 x, .slice RA vs.length rc]
  have hB0 : Below w.heap.size w (w.alloc (.cells #[.int .i64 f, .int .i64 v, .int .i64 x, .slice RA vs.length rc] 28)) := up_ (Below.refl _ _) _
  have hr0 := hr.on hB0
  have hv0 := (hrv.below hB0).more (Bd' := (w.alloc (.cells #[.int .i64 f, .int .i64 v, .int .i64 x, .slice RA vs.length rc] 28)).heap.size) hB0.size
  obtain ⟨q1, hq1⟩ : ∃ q, repsOkB n view (rl ps) = q := ⟨_, rfl⟩
  obtain ⟨q2, hq2⟩ : ∃ q, repB n view ⟨f, v, x, vs⟩ = q := ⟨_, rfl⟩
  have HQ1 := Lib.hid (specReportsOk_is q1 n view A c ps hq1 _ hr0 hf)
  have HQ2 := Lib.hid (fun (W : World) h => l3report_is q2 n view f v x RA rc vs hq2 W h hvl)
  have HADD := Lib.hid (fun (W : World) h1 h2 => l3add_go f v x RA rc vs A c (placeR ps f) ps (placeR_pl ps f) W h1 h2 (by have := hf.1; omega) hc)
  have HR0 := Lib.hid hr0
  have HV0 := Lib.hid hv0
  have HB0 := Lib.hid hB0
  have HF := Lib.hid hf
  obtain ⟨zq, hzq⟩ : ∃ z, addT n view (rl ps) ⟨f, v, x, vs⟩ = z := ⟨_, rfl⟩
  rw [hzq]
  have HZ := Lib.hid hzq
  have HKB := Lib.hid kb
  clear hr hrv hf hc hB0 hr0 hv0 hzq kb
  rcases q1 with _ | _
  · have hz1 : zq = ([], false) := by rw [← HZ.out, addT, hq1]; rfl
    subst hz1
    go_enter Try.func28, Try.ntmps28
    go_wp2_with fail
    refine HQ1.out.mono ?_
    rintro e w1 ⟨rfl, hb1⟩
    go_wp2
    refine bodyPost_ret (v := .tuple #[.slice none 0 0, .bool false]) (by simp [results, Try.results28, go_sem]) rfl ?_
    exact ⟨none, 0, [], rfl, rfl, RdR.nil_, on_ HB0.out hb1⟩
  · skip
    rcases q2 with _ | _
    · have hz1 : zq = ([], false) := by rw [← HZ.out, addT, hq1, hq2]; rfl
      subst hz1
      go_enter Try.func28, Try.ntmps28
      go_wp2_with fail
      refine HQ1.out.mono ?_
      rintro e w1 ⟨rfl, hb1⟩
      have kb1 := HKB.out.on hb1
      have rb1 := kb1.rule
      have hv1 := HV0.out.on hb1
      have hB1 := on_ HB0.out hb1
      clear hb1
      go_wp2_with fail
      refine (HQ2.out w1 hv1).mono ?_
      rintro e w2 ⟨rfl, hb2⟩
      have hB2 := on_ hB1 hb2
      go_wp2
      refine bodyPost_ret (v := .tuple #[.slice none 0 0, .bool false]) (by simp [results, Try.results28, go_sem]) rfl ?_
      exact ⟨none, 0, [], rfl, rfl, RdR.nil_, hB2⟩
    · have hz1 : zq = (rl (if hasF ps f (placeR ps f) then ps else insR ps (placeR ps f) ⟨⟨f, v, x, vs⟩, RA, rc⟩), !hasF ps f (placeR ps f)) := by
        rw [← HZ.out, addT, hq1, hq2, hasF_rl, placeR_rl]
        show ((if hasX (rl ps) f (placeX (rl ps) f) then rl ps else insX (rl ps) (placeX (rl ps) f) ⟨f, v, x, vs⟩), _) = _
        congr 1
        split
        · rfl
        · rw [insR_rl]
      have hfl : (if hasF ps f (placeR ps f) then ps else insR ps (placeR ps f) ⟨⟨f, v, x, vs⟩, RA, rc⟩).length ≤ 1048577 ∧ ∀ i, i < (if hasF ps f (placeR ps f) then ps else insR ps (placeR ps f) ⟨⟨f, v, x, vs⟩, RA, rc⟩).length → ((if hasF ps f (placeR ps f) then ps else insR ps (placeR ps f) ⟨⟨f, v, x, vs⟩, RA, rc⟩).getD i zP).r.vs.length ≤ 1048577 := by
        have hfo := HF.out
        split
        · exact ⟨by have := hfo.1; omega, fun i hi => by have := hfo.2 i hi; omega⟩
        · refine ⟨by rw [insR_len _ _ _ (placeR_pl ps f).1]; have := hfo.1; have := (placeR_pl ps f).1; omega, fun i hi => ?_⟩
          rcases insR_mem (getD_mem hi) with e | e
          · rw [e]; show vs.length ≤ 1048577; omega
          · obtain ⟨k, hk, e2⟩ := mem_getD e
            rw [← e2]; have := hfo.2 k hk; omega
      obtain ⟨us, hus⟩ : ∃ us, (if hasF ps f (placeR ps f) then ps else insR ps (placeR ps f) ⟨⟨f, v, x, vs⟩, RA, rc⟩) = us := ⟨_, rfl⟩
      obtain ⟨hq, hhq⟩ : ∃ q, hasF ps f (placeR ps f) = q := ⟨_, rfl⟩
      have hadd := HADD.out
      rw [hus] at hadd hfl hz1
      rw [hhq] at hadd hz1
      subst hz1
      have HA2 := Lib.hid hadd
      clear hus hhq hadd HADD HZ
      go_enter Try.func28, Try.ntmps28
      go_wp2_with fail
      refine HQ1.out.mono ?_
      rintro e w1 ⟨rfl, hb1⟩
      have kb1 := HKB.out.on hb1
      have rb1 := kb1.rule
      have hr1 := HR0.out.on hb1
      have hv1 := HV0.out.on hb1
      have hB1 := on_ HB0.out hb1
      clear hb1
      go_wp2_with fail
      refine (HQ2.out w1 hv1).mono ?_
      rintro e w2 ⟨rfl, hb2⟩
      have kb2 := kb1.on hb2
      have rb2 := kb2.rule
      have hr2 := hr1.on hb2
      have hv2 := hv1.on hb2
      have hB2 := on_ hB1 hb2
      clear hb2 kb1 rb1 hr1 hv1 hB1 kb2
      go_wp2_with fail
      refine (HA2.out w2 hr2 hv2).mono ?_
      rintro e w3 ⟨B3, d3, rfl, hcap3, -, hr3, hb3⟩
      have hB3 := on_ hB2 hb3
      clear rb2 hr2 hv2
      go_wp2_with fail
      refine (l3ownAll_any B3 d3 us w3 hr3 hfl.1 hfl.2).mono ?_
      rintro e w4 ⟨v4, qs, rfl, hrl, hown, hvs, hb4⟩
      obtain ⟨B4, d4, rfl, -⟩ := formA hown
      have hr4 := RdR.of_own hown hvs.rd
      have hB4 := on_ hB3 hb4
      have hql : qs.length = us.length := by rw [← rl_len, hrl, rl_len]
      clear hown hvs hr3 hb3 hb4
      go_wp2
      refine bodyPost_ret (v := .tuple #[.slice B4 qs.length d4, .bool (!hq)]) (by simp [results, Try.results28, go_sem, hql]) rfl ?_
      exact ⟨B4, d4, qs, rfl, hrl, hr4.2, hB4⟩
end Go.Proofs.Ytcfjmhebhhekbaa.V
