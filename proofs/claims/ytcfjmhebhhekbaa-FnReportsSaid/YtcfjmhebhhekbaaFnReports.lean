/-
  Proved here: for whatever bytes of a draw, the law FnReports (the first report of a sender remains, and reports stay in order) answers true. No condition.
-/
import Derived.Test.YtcfjmhebhhekbaaRows
import Derived.Test.YtcfjmhebhhekbaaDoor
import Derived.Test.YtcfjmhebhhekbaaDrawAdd
import Derived.Test.YtcfjmhebhhekbaaRSpec
import Derived.Test.YtcfjmhebhhekbaaRImpl
import Derived.Test.YtcfjmhebhhekbaaReports
import Derived.Test.YtcfjmhebhhekbaaRLaw
import Derived.Test.YtcfjmhebhhekbaaLift
set_option linter.unusedVariables false
set_option maxRecDepth 100000
namespace Go.Proofs.Ytcfjmhebhhekbaa.fnReports
open Go.RowKit Go.ChangeShapes Go.WideShapes Go.Proofs.Ytcfjmhebhhekbaa.B Go.Proofs.Ytcfjmhebhhekbaa.V

theorem add_cases (n view : Int) (rs : List Rp) (r : Rp) (hl : repsOkB n view rs = true → ∀ ps : List Pp, rl ps = rs → ∃ k, k ≤ rs.length ∧ k = placeX rs r.f) :
    ((addT n view rs r).2 = false ∧ ((addT n view rs r).1 = [] ∨ (addT n view rs r).1 = rs)) ∨ ((addT n view rs r).2 = true ∧ (addT n view rs r).1 = insX rs (placeX rs r.f) r ∧ repsOkB n view rs = true ∧ repB n view r = true ∧ hasX rs r.f (placeX rs r.f) = false) := by
  unfold addT
  split
  · rename_i h
    simp only [Bool.and_eq_true] at h
    rcases hx : hasX rs r.f (placeX rs r.f) with _ | _
    · exact .inr ⟨rfl, rfl, h.1, h.2, rfl⟩
    · exact .inl ⟨rfl, .inr rfl⟩
  · exact .inl ⟨rfl, .inl rfl⟩
theorem all_of_asc {n view : Int} {rs : List Rp} (h1 : ∀ r ∈ rs, repB n view r = true) (h2 : rs.Pairwise fun a b => a.f < b.f) : allR n view rs = true := by
  unfold allR
  rw [List.all_eq_true]
  intro i hi
  have hi := List.mem_range.1 hi
  unfold goodR
  rw [h1 _ (getDR_mem hi), Bool.true_and, Bool.or_eq_true]
  by_cases h0 : i = 0
  · exact .inl (by simp [h0])
  · refine .inr (decide_eq_true ?_)
    have := List.pairwise_iff_getElem.1 h2 (i - 1) i (by omega) hi (by omega)
    simpa [List.getD_eq_getElem?_getD, List.getElem?_eq_getElem hi, List.getElem?_eq_getElem (show i - 1 < rs.length by omega)] using this
theorem placeX_le : ∀ (rs : List Rp) (f : Int), placeX rs f ≤ rs.length
  | [], _ => Nat.le_refl _
  | p :: ps, f => by
    unfold placeX
    split
    · have := placeX_le ps f; simp; omega
    · simp
theorem ins_ok {n view : Int} {ps : List Pp} {p : Pp} (hq : repsOkB n view (rl ps) = true) (hr : repB n view p.r = true) (hx : hasX (rl ps) p.r.f (placeX (rl ps) p.r.f) = false) : repsOkB n view (insX (rl ps) (placeX (rl ps) p.r.f) p.r) = true := by
  have hq0 := hq
  have hall : allR n view (rl ps) = true := by unfold repsOkB at hq; simp only [Bool.and_eq_true] at hq; exact hq.1
  have hf : 0 ≤ p.r.f ∧ p.r.f < n := by
    have h := hr
    unfold repB inB at h
    simp only [Bool.and_eq_true, decide_eq_true_eq] at h
    exact h.1
  obtain ⟨j, hj⟩ : ∃ j : Nat, p.r.f = (j : Int) := ⟨p.r.f.toNat, by omega⟩
  have hasc := asc_of hall
  have hs : sl ps j = none := by
    rw [← placeR_rl, ← hasF_rl, has_sl hj ps hasc] at hx
    simpa using hx
  have hia := ins_asc hj ps hasc hs
  rw [← placeR_rl, ← insR_rl]
  unfold repsOkB at hq0 ⊢
  simp only [Bool.and_eq_true] at hq0 ⊢
  refine ⟨all_of_asc (fun r hr' => ?_) ?_, hq0.2⟩
  · obtain ⟨u, hu, rfl⟩ := List.mem_map.1 hr'
    rcases insR_mem hu with rfl | hu
    · exact hr
    · exact reps_rep hq _ (List.mem_map.2 ⟨u, hu, rfl⟩)
  · exact List.pairwise_map.2 hia
/-- Is the report at j the one that was added? -/
def hitM (ys : List Pp) (f : Int) (m : Nat) (j : Nat) : Bool := ((ys.getD j zP).r.f == f) && (((ys.getD j zP).r.vs.length : Int) == (m : Int)) && (((ys.getD j zP).r.v == 0) && ((ys.getD j zP).r.x == 0))
def fndM (ys : List Pp) (f : Int) (m : Nat) (k : Nat) : Bool := (List.range k).any (hitM ys f m)
theorem fndM_succ (ys : List Pp) (f : Int) (m k : Nat) : fndM ys f m (k + 1) = (fndM ys f m k || hitM ys f m k) := by simp [fndM, List.range_succ]
theorem fndM_at {ys : List Pp} {f : Int} {m k j : Nat} (hj : j < k) (h : hitM ys f m j = true) : fndM ys f m k = true := List.any_eq_true.2 ⟨j, List.mem_range.2 hj, h⟩
theorem insX_at (rs : List Rp) (k : Nat) (r : Rp) (hk : k ≤ rs.length) : (insX rs k r).getD k zR = r := by
  unfold insX
  rw [List.getD_eq_getElem?_getD, List.getElem?_append_right (by simp; omega)]
  simp [List.length_take, Nat.min_eq_left hk]
set_option maxHeartbeats 1600000 in
theorem walk (A : Option Addr) (nb c : Nat) (hm : nb ≤ maxLen) (w : World) (hr : RdC w w.heap.size A nb) :
    Calls Try.prog 3 #[.slice A nb c] w fun e w' => e = .returned (.bool true) ∧ Below w.heap.size w w' := by
  have HD := Lib.hid (drawAdd_any A nb c hm w hr)
  clear hr
  go_enter Try.func3, Try.ntmps3
  go_wp2_with fail
  refine HD.out.mono ?_
  rintro e w1 ⟨n, view, B, d, ps, f, A2, c2, vs, rfl, hok, hf1, hf2, hvl, hr1, hv1, hB1⟩
  have hfew := hok.few
  have kb2 := Blk.new w1 28 #[.int .i64 f, .int .i64 0, .int .i64 0, .slice A2 vs.length c2]
  have hb2 : Below w1.heap.size w1 (w1.alloc (.cells #[.int .i64 f, .int .i64 0, .int .i64 0, .slice A2 vs.length c2] 28)) := up_ (Below.refl _ _) _
  have hr2 := hr1.on hb2
  have hv2 := hv1.on hb2
  have hB2 := Lib.hid (on_ hB1 hb2)
  have HC := Lib.hid (implAdd_any n view B d ps _ rfl f 0 0 A2 c2 vs _ hr2 hfew hv2 (by omega))
  have kb2 := Lib.hid kb2
  clear hr2 hv2 hb2 hr1 hv1 hB1
  go_wp2_with fail
  refine HC.out.mono ?_
  rintro e w3 ⟨B3, d3, ys, gs, rfl, hog, hyl, hb3⟩
  have hB3 := Lib.hid (on_ hB2.out hb3)
  have kb3 := Lib.hid (kb2.out.on hb3)
  have hr3 := Lib.hid hog.rd
  have hys : rl ys = (addT n view (rl ps) ⟨f, 0, 0, vs⟩).1 := hog.1
  have hpl : ps.length ≤ 11 := hok.2.2.2.2.1
  clear HC hb3 hB2 kb2 hog
  rcases add_cases n view (rl ps) ⟨f, 0, 0, vs⟩ (fun _ _ _ => ⟨_, placeX_le _ _, rfl⟩) with ⟨hq, hs⟩ | ⟨hq, hs, hq1, hq2, hx⟩
  · rw [hq]
    have hlen : ys.length = 0 ∨ ys.length = ps.length := by
      rcases hs with hs | hs
      · left; rw [← rl_len, hys, hs]; rfl
      · right; rw [← rl_len, hys, hs, rl_len]
    clear hq hs hys
    by_cases h0 : ys.length = 0
    · have e0 : ((ys.length : Int) == 0) = true := by simp [h0]
      clear h0 hlen
      go_wp2_with fail
      refine (reports_is _).mono ?_
      rintro e w5 ⟨rfl, hb⟩
      have hB5 := on_ hB3.out hb
      go_wp2
      go_ret
      exact ⟨rfl, hB5⟩
    · have e0 : ((ys.length : Int) == 0) = false := by rw [beq_eq_false_iff_ne]; omega
      have e1 : ((ys.length : Int) == (ps.length : Int)) = true := by
        rcases hlen with h | h
        · exact absurd h h0
        · simp [h]
      clear h0 hlen
      go_wp2_with fail
      refine (reports_is _).mono ?_
      rintro e w5 ⟨rfl, hb⟩
      have hB5 := on_ hB3.out hb
      go_wp2
      go_ret
      exact ⟨rfl, hB5⟩
  · rw [hq]
    rw [hs] at hys
    have hly : ys.length = ps.length + 1 := by
      rw [← rl_len, hys]
      have := placeX_le (rl ps) f
      rw [rl_len] at this
      simp [insX, rl_len]; omega
    have hok3 : repsOkB n view (rl ys) = true := by rw [hys]; exact ins_ok (p := ⟨⟨f, 0, 0, vs⟩, A2, c2⟩) hq1 hq2 hx
    have hhit : hitM ys f vs.length (placeX (rl ps) f) = true := by
      have hp := insX_at (rl ps) (placeX (rl ps) f) ⟨f, 0, 0, vs⟩ (placeX_le _ _)
      have hp2 : (ys.getD (placeX (rl ps) f) zP).r = ⟨f, 0, 0, vs⟩ := by rw [← rl_at, hys]; exact hp
      unfold hitM
      rw [hp2]; simp
    have hfin : fndM ys f vs.length ys.length = true := fndM_at (by have := placeX_le (rl ps) f; rw [rl_len] at this; omega) hhit
    have hfewy : Few ys := by
      refine ⟨by omega, fun i hi => ?_⟩
      have hm : (rl ys).getD i zR ∈ insX (rl ps) (placeX (rl ps) f) ⟨f, 0, 0, vs⟩ := by rw [← hys]; exact getDR_mem (by rw [rl_len]; exact hi)
      rw [rl_at] at hm
      simp only [insX, List.mem_append, List.mem_cons] at hm
      have hsm : ∀ y ∈ rl ps, y.vs.length ≤ 1048576 := fun y hy => by
        obtain ⟨u, hu, rfl⟩ := List.mem_map.1 hy
        have := hok.2.2.2.2.2 u hu
        omega
      rcases hm with hm | hm | hm
      · exact hsm _ (List.mem_of_mem_take hm)
      · rw [hm]; show vs.length ≤ 1048576; omega
      · exact hsm _ (List.mem_of_mem_drop hm)
    have HOK := Lib.hid (fun W h => implReportsOk_is true n view B3 d3 ys hok3 W h hfewy)
    have HFIN := Lib.hid hfin
    obtain ⟨L, hL⟩ : ∃ L, ys.length = L := ⟨_, rfl⟩
    obtain ⟨m, hmv⟩ : ∃ m, vs.length = m := ⟨_, rfl⟩
    have HL := Lib.hid hL
    rw [hL] at hly hyl HOK HFIN ⊢
    rw [hmv] at HFIN hvl kb3 ⊢
    have e9 : ((L : Int) == (ps.length : Int) + 1) = true := by simp; omega
    clear hq hs hys hq1 hq2 hx hok3 hhit hfin hfewy hok hL hmv hfew hly
    go_wp2
    go_loopw [9, 10] (fun fo i wr => ∃ (k : Nat), k ≤ L ∧ i = .int .i64 k ∧ fo = .bool (fndM ys f m k) ∧ Below w3.heap.size w3 wr) (fun _ i _ => L - (intOf i).toNat)
    case atStart => exact ⟨0, Nat.zero_le _, rfl, rfl, Below.refl _ _⟩
    case round =>
      obtain ⟨k, hk, rfl, rfl, hbel⟩ := hrel
      by_cases hlt : k < L
      · obtain ⟨b, off, rfl, hb, hc0, hc1, hc2, hc3, -⟩ := RdR.at_ (hr3.out.below hbel) (k := k) (by rw [HL.out]; exact hlt)
        have hsu := fndM_succ ys f m k
        unfold hitM at hsu
        obtain ⟨⟨⟨f1, v1, x1, vs1⟩, A1, c1⟩, hu⟩ : ∃ u, ys.getD k zP = u := ⟨_, rfl⟩
        rw [hu] at hc0 hc1 hc2 hc3 hsu
        simp only at hc0 hc1 hc2 hc3 hsu
        have HSU := Lib.hid hsu
        have kbr := kb3.out.on hbel
        have lb := lat_blk kbr
        have C0 := fun x : Lat wr => x.cell hc0
        have C1 := fun x : Lat wr => x.cell hc1
        have C2 := fun x : Lat wr => x.cell hc2
        have C3 := fun x : Lat wr => x.cell hc3
        have HBEL := Lib.hid hbel
        clear hu hsu kbr hc0 hc1 hc2 hc3 hbel
        generalize fndM ys f m k = q at *
        have HEND : Hid (∀ q' : Bool, q' = (q || f1 == f && (vs1.length : Int) == (m : Int) && (v1 == 0 && x1 == 0)) → fndM ys f m (k + 1) = q') := fun q' h => by rw [HSU.out, h]
        have hbx : (k : Int) < (L : Int) := by omega
        rcases q with _ | _
        · by_cases h1 : f1 = f
          · have d1 : (f1 == f) = true := by simpa using h1
            by_cases h2 : (vs1.length : Int) = (m : Int)
            · have d2 : ((vs1.length : Int) == (m : Int)) = true := by simpa using h2
              by_cases h3 : v1 = 0
              · by_cases h4 : x1 = 0
                · subst h3 h4
                  have HF := Lib.hid (HEND.out true (by simp [d1, d2]))
                  clear h1 h2 HSU HEND
                  go_wp2
                  refine wp_region_lat (by kernel_rfl) (by kernel_rfl) ?_
                  repeat (go_big_quiet_step (fail))
                  refine wpQuiet_nil ?_
                  rintro w5 ⟨⟨_, hb5⟩, rfl⟩
                  clear lb C0 C1 C2 C3
                  have hB5 := Lib.hid (on_ HBEL.out hb5)
                  clear hb5
                  go_wp2
                  go_roundw
                  case rel => exact ⟨k + 1, by omega, by go_num, by rw [HF.out], hB5.out⟩
                  case measure => simp [intOf]; omega
                · have d4 : (x1 == 0) = false := by simpa using h4
                  subst h3
                  have HF := Lib.hid (HEND.out false (by simp [d4]))
                  clear h1 h2 h4 HSU HEND
                  go_wp2
                  refine wp_region_lat (by kernel_rfl) (by kernel_rfl) ?_
                  repeat (go_big_quiet_step (fail))
                  refine wpQuiet_nil ?_
                  rintro w5 ⟨⟨_, hb5⟩, rfl⟩
                  clear lb C0 C1 C2 C3
                  have hB5 := Lib.hid (on_ HBEL.out hb5)
                  clear hb5
                  go_wp2
                  go_roundw
                  case rel => exact ⟨k + 1, by omega, by go_num, by rw [HF.out], hB5.out⟩
                  case measure => simp [intOf]; omega
              · have d3 : (v1 == 0) = false := by simpa using h3
                have HF := Lib.hid (HEND.out false (by simp [d3]))
                clear h1 h2 h3 HSU HEND
                go_wp2
                refine wp_region_lat (by kernel_rfl) (by kernel_rfl) ?_
                repeat (go_big_quiet_step (fail))
                refine wpQuiet_nil ?_
                rintro w5 ⟨⟨_, hb5⟩, rfl⟩
                clear lb C0 C1 C2 C3
                have hB5 := Lib.hid (on_ HBEL.out hb5)
                clear hb5
                go_wp2
                go_roundw
                case rel => exact ⟨k + 1, by omega, by go_num, by rw [HF.out], hB5.out⟩
                case measure => simp [intOf]; omega
            · have d2 : ((vs1.length : Int) == (m : Int)) = false := by simpa using h2
              have HF := Lib.hid (HEND.out false (by simp [d2]))
              clear h1 h2 HSU HEND
              go_wp2
              refine wp_region_lat (by kernel_rfl) (by kernel_rfl) ?_
              repeat (go_big_quiet_step (fail))
              refine wpQuiet_nil ?_
              rintro w5 ⟨⟨_, hb5⟩, rfl⟩
              clear lb C0 C1 C2 C3
              have hB5 := Lib.hid (on_ HBEL.out hb5)
              clear hb5
              go_wp2
              go_roundw
              case rel => exact ⟨k + 1, by omega, by go_num, by rw [HF.out], hB5.out⟩
              case measure => simp [intOf]; omega
          · have d1 : (f1 == f) = false := by simpa using h1
            have HF := Lib.hid (HEND.out false (by simp [d1]))
            clear h1 HSU HEND
            go_wp2
            refine wp_region_lat (by kernel_rfl) (by kernel_rfl) ?_
            repeat (go_big_quiet_step (fail))
            refine wpQuiet_nil ?_
            rintro w5 ⟨⟨_, hb5⟩, rfl⟩
            clear lb C0 C1 C2 C3
            have hB5 := Lib.hid (on_ HBEL.out hb5)
            clear hb5
            go_wp2
            go_roundw
            case rel => exact ⟨k + 1, by omega, by go_num, by rw [HF.out], hB5.out⟩
            case measure => simp [intOf]; omega
        · have HF := Lib.hid (HEND.out true (by simp))
          clear HSU HEND
          go_wp2
          refine wp_region_lat (by kernel_rfl) (by kernel_rfl) ?_
          repeat (go_big_quiet_step (fail))
          refine wpQuiet_nil ?_
          rintro w5 ⟨⟨_, hb5⟩, rfl⟩
          clear lb C0 C1 C2 C3
          have hB5 := Lib.hid (on_ HBEL.out hb5)
          clear hb5
          go_wp2
          go_roundw
          case rel => exact ⟨k + 1, by omega, by go_num, by rw [HF.out], hB5.out⟩
          case measure => simp [intOf]; omega
      · obtain rfl : k = L := by omega
        have hfi := HFIN.out
        rw [hfi]
        clear hfi
        have hB4 := Lib.hid (on_ hB3.out hbel)
        have hr4 := Lib.hid (hr3.out.on hbel)
        clear hbel
        go_wp2_with fail
        refine (HOK.out wr hr4.out).mono ?_
        rintro e w5 ⟨rfl, hb5⟩
        have hB5 := Lib.hid (on_ hB4.out hb5)
        clear hb5
        go_wp2_with fail
        refine (reports_is _).mono ?_
        rintro e w6 ⟨rfl, hb6⟩
        have hB6 := on_ hB5.out hb6
        go_wp2
        go_ret
        exact ⟨rfl, hB6⟩

theorem closed : joinedFacts Try.prog 3 Try.f3 Rows.fnReportsSpec Rows.fnReportsRow = true := by
  unfold joinedFacts
  rw [D.make_is, D.enter_is, D.final_is]
  kernel_rfl

set_option maxRecDepth 100000 in
theorem lifted (os : Os) (started : os.Started) (H : Type) (enc : TypeId × Value → H) :
    ReturnsInHanded {} Try.checked os 3 .any (Rows.fnReportsSpec.pre6 enc Try.prog Try.f3 Rows.fnReportsRow.domain false) (Rows.fnReportsSpec.post enc Try.prog Try.f3 false true false false) := by
  refine returnsInHanded_of_change (C := Try.checked) D.own started (by kernel_rfl) Try.func3
    (ChangeSpec.witness6 (enc := enc) (C := Try.checked) false ⟨#[], #[.slice none 0 0], []⟩ 8 (by kernel_rfl) (by kernel_rfl) (by kernel_rfl) (by kernel_rfl)) ?_
  intro W base args ds gs before hval0 hW hcnd _
  have hval : ∀ (j : Nat) t v, Try.f3.params[j]? = some t → args[j]? = some v → Value.okWide Try.prog W .any base t v := hval0
  have hW' := hW
  obtain ⟨p, q, hA0, hV, rfl, hfz, hnd⟩ := hW
  have hA : DataW.TrodAll enc Try.prog W 0 (fun _ => true) true Try.f3.params.toList args.toList ds p := hA0
  rw [Try.params3] at hA hval
  obtain ⟨v0, d0, rfl, rfl, h0⟩ := trodAll_one hA
  obtain ⟨a0, len0, cap0, rfl⟩ := okWide_slice Try.underlying22 (hval 0 22 v0 rfl rfl)
  obtain ⟨fuel0, hf0⟩ := h0
  obtain ⟨Ab, nb, cb, hcs0, hmb, hrb⟩ := open_code hf0
  have hv0 : (Value.slice a0 len0 cap0) = .slice Ab nb cb := by simpa [Value.cells] using hcs0
  rw [hv0] at hW' ⊢
  refine (walk Ab nb cb hmb W hrb).mono fun e W' ⟨he, hb⟩ => ⟨_, he, law_post D.laidOut hW' hb rfl (by kernel_rfl) Try.underlying4 (by kernel_rfl) rfl⟩

theorem over : Rows.fnReportsRow.holds Try.pinned (OpenSpec.ofChange Rows.fnReportsSpec) :=
  OpenClaim.holds_of_wide 3 Try.f3 rfl rfl rfl rfl rfl rfl rfl ⟨rfl, rfl, rfl, rfl, rfl⟩ rfl rfl rfl rfl rfl (by kernel_rfl) Try.func3 closed
    (of_decide_eq_true (by kernel_rfl)) (by unfold Func.isWrapper; first | (rw [if_pos (by decide +kernel)]; kernel_rfl) | (rw [if_neg (by decide +kernel)]; exact ⟨rfl, rfl⟩))
    (fun os started H enc _ => lifted os started H enc)

theorem proved : Rows.FnReportsSaid :=
  over
end Go.Proofs.Ytcfjmhebhhekbaa.fnReports
