/-
  l4join of the model; JoinView of the model and of the program: contracts. No statement is proved here.
-/
import Derived.Test.YtfdfjmibjnmhpaaK18
set_option linter.unusedVariables false
set_option maxRecDepth 100000
namespace Go.Proofs.Ytfdfjmibjnmhpaa.V
open Go.RowKit Go.Proofs.Ytfdfjmibjnmhpaa.B
theorem from_in {d : Rd4} (h : repQ d = true) : ∀ h ∈ d.hs, ∀ x ∈ frH h, 0 ≤ x ∧ x < d.n := fun h hh x hx => by
  have h1 := heard_of ‹repQ d = true›
  unfold heardB at h1
  rw [List.all_eq_true] at h1
  obtain ⟨i, hi, rfl⟩ := List.getElem_of_mem hh
  have h2 := h1 i (List.mem_range.2 hi)
  have e : d.hs.getD i (0, []) = d.hs[i] := by rw [List.getD_eq_getElem?_getD, List.getElem?_eq_getElem hi]; rfl
  unfold goodH repsOkB allR at h2
  rw [e] at h2
  simp only [Bool.and_eq_true] at h2
  have h3 := h2.1.1
  rw [List.all_eq_true] at h3
  obtain ⟨r, hr, rfl⟩ := List.mem_map.1 hx
  obtain ⟨j, hj, rfl⟩ := List.getElem_of_mem hr
  have h4 := h3 j (List.mem_range.2 hj)
  have e2 : d.hs[i].2.getD j zR = d.hs[i].2[j] := by rw [List.getD_eq_getElem?_getD, List.getElem?_eq_getElem hj]; rfl
  unfold goodR repB inB at h4
  rw [e2] at h4
  simp only [Bool.and_eq_true, decide_eq_true_eq] at h4
  exact ⟨h4.1.1.1, h4.1.1.2⟩
theorem wf_from {q : Rq} (h : repQ q.dat = true) : ∀ x ∈ q.hs, ∀ p ∈ x.ps, (Lit.int .i64 p.r.f).wf = true := fun x hx p hp => by
  have h1 := from_in h (hd1 x) (List.mem_map.2 ⟨x, hx, rfl⟩) p.r.f (by simp only [frH, hd1, rl, List.map_map, List.mem_map]; exact ⟨p, hp, rfl⟩)
  have h2 := size_of h
  simp only [sizeB, Bool.or_eq_true, decide_eq_true_eq] at h2
  exact WalkArith.wf_i64 (by omega)
theorem info_Bool : (Try.prog.info? 4).map (fun i => (i.zero, i.size, i.bytes)) = some (some (.bool false), 1, 1) := by kernel_rfl
/-- Whose flags are up. -/
def PBo (cs : Array Value) (N : Nat) (S : List Int) : Prop := cs.size = N ∧ ∀ x : Nat, x < N → cs[x]? = some (.bool (decide ((x : Int) ∈ S)))
theorem PBo.zero (N : Nat) : PBo (madeCells #[.bool false] N) N [] := by
  refine ⟨by simp [madeCells], fun x hx => ?_⟩
  simp [madeCells, hx, Nat.mod_one]
theorem PBo.ext {cs : Array Value} {N : Nat} {S S' : List Int} (h : PBo cs N S) (he : ∀ x, x ∈ S ↔ x ∈ S') : PBo cs N S' := ⟨h.1, fun x hx => by rw [h.2 x hx]; congr 2; simp [he]⟩
theorem PBo.old {cs : Array Value} {N : Nat} {S : List Int} {y : Int} (h : PBo cs N S) (hy : y ∈ S) : PBo cs N (S ++ [y]) := h.ext fun x => by
  rw [List.mem_append, List.mem_singleton]
  exact ⟨.inl, fun h => h.elim id fun e => e ▸ hy⟩
theorem PBo.new {cs : Array Value} {N : Nat} {S : List Int} {F : Nat} (h : PBo cs N S) (hF : F < N) : PBo (cs.setIfInBounds F (.bool true)) N (S ++ [(F : Int)]) := by
  refine ⟨by simpa using h.1, fun x hx => ?_⟩
  by_cases e : x = F
  · subst e
    rw [Array.getElem?_setIfInBounds_self_of_lt (by rw [h.1]; exact hx)]
    simp
  · rw [Array.getElem?_setIfInBounds_ne (by omega), h.2 x hx]
    congr 2
    have : ¬ (x : Int) = (F : Int) := by omega
    simp [this]
theorem frS_two (hs : List (Int × List Rp)) (w : Int) (i : Nat) (hi : i < hs.length) : (w ≤ (hs.getD i (0, [])).1 → frS (hs.take (i + 1)) w = frS (hs.take i) w ++ frH (hs.getD i (0, []))) ∧ (¬ w ≤ (hs.getD i (0, [])).1 → frS (hs.take (i + 1)) w = frS (hs.take i) w) :=
  ⟨fun h => by rw [frS_take hs w i hi, if_pos h], fun h => by rw [frS_take hs w i hi, if_neg h, List.append_nil]⟩
theorem frH_at (hs : List Hp) (k : Nat) : frH ((hl hs).getD k (0, [])) = (hs.getD k zH).ps.map (fun p => p.r.f) := by
  rw [hl_at]; simp only [frH, hd1, rl, List.map_map]; rfl
theorem map_take9 {ps : List Pp} {j : Nat} {x : Int} (h : x ∈ (ps.take j).map (fun p => p.r.f)) : x ∈ ps.map (fun p => p.r.f) := by
  obtain ⟨p, hp, rfl⟩ := List.mem_map.1 h
  exact List.mem_map.2 ⟨p, List.mem_of_mem_take hp, rfl⟩
set_option maxHeartbeats 8000000 in
theorem l4join_any (q : Rq) (hg : repQ q.dat = true) (w : World) (hr : RdQ w w.heap.size q) (hf : FewQ q) :
    Calls Try.prog 37 #[q.agg] w fun e w' => e = .returned (.int .i64 (joinQ q.dat)) ∧ Below w.heap.size w w' := by
  obtain ⟨i0, hi, hz0, hz1, hz2⟩ := info_parts info_Bool
  have hjq := fun v => @joinQ_eq q.dat v
  have hsz := size_of hg
  have hfi := from_in hg
  have hvz : 0 ≤ q.dat.view := by
    have h1 := hg
    unfold repQ headQ viewOkB at h1
    simp only [Bool.and_eq_true, decide_eq_true_eq] at h1
    exact h1.1.2.2.2.2.1.1
  have hv9 : q.dat.view ≤ 9 := by
    have h1 := hg
    unfold repQ headQ viewOkB at h1
    simp only [Bool.and_eq_true, decide_eq_true_eq] at h1
    exact h1.1.2.2.2.2.1.2
  have hq1 : ∀ v : Int, q.dat.view < v → v ≤ 9 → weakR q.dat.n ≤ (nd (frS q.dat.hs v) : Int) → (∀ u, v < u → u ≤ 9 → (nd (frS q.dat.hs u) : Int) < weakR q.dat.n) → joinQ q.dat = v := fun v h1 h2 h3 h4 => hjq v ⟨.inr ⟨h1, h2, h3⟩, h4⟩
  have hq2 : (∀ u, q.dat.view < u → u ≤ 9 → (nd (frS q.dat.hs u) : Int) < weakR q.dat.n) → joinQ q.dat = q.dat.view := fun h4 => hjq _ ⟨.inl rfl, h4⟩
  obtain ⟨z, hz⟩ : ∃ z, joinQ q.dat = z := ⟨_, rfl⟩
  rw [hz] at hq1 hq2 ⊢
  clear hz hjq hg
  have RH := Lib.hid hr.h
  obtain ⟨n, id, own, view, left, voted, lv, lx, dn, pr, vo, re, ds, hs, Av, Ap, Ao, Ar, Ad, Ah, cv, cp, co, cr, cd, ch⟩ := q
  simp only [Rq.agg, Rq.cells, Rq.dat] at *
  obtain ⟨N, rfl⟩ : ∃ N : Nat, n = (N : Int) := ⟨n.toNat, by simp only [sizeB, Bool.or_eq_true, decide_eq_true_eq] at hsz; omega⟩
  have hN7 : N ≤ 7 := by simp only [sizeB, Bool.or_eq_true, decide_eq_true_eq] at hsz; omega
  have hmk : ∀ u : World, (Instr.makeSlice 123 (.int .i64 (N : Int)) (.int .i64 (N : Int))).run Try.prog u =
      .ok (.slice (some ⟨u.heap.size, 0, none⟩) N N) (u.alloc (.cells (madeCells #[.bool false] N) 4)) := fun u => by
    have h := run_make_rowN (P := Try.prog) 123 4 i0 (.bool false) Try.underlying123 hi hz0 .i64 .i64 N N (Nat.le_refl _) (by rw [hz2]; omega) (by omega) u
    rw [h, hz1, Nat.mul_one]; rfl
  clear hz2 hz1 hz0 hi
  obtain ⟨wk, hwk⟩ : ∃ k, weakR (N : Int) = k := ⟨_, rfl⟩
  have HWK := Lib.hid (fun W => weak_is (N : Int) wk hwk hsz W)
  rw [hwk] at hq1 hq2
  have HQ1 := Lib.hid hq1; have HQ2 := Lib.hid hq2
  have hnd : ∀ (k : Nat) (v : Int) (m : Nat) (T : List Int), (∀ x ∈ T, x ∈ frH ((hl hs).getD k (0, []))) → k < hs.length → nd (frS ((hl hs).take k) v ++ T) ≤ N := fun k v m T hT hk => nd_lt fun x hx => by
    rcases List.mem_append.1 hx with hx | hx
    · obtain ⟨h, hh, _, h2⟩ := mem_frS.1 hx
      exact hfi h (List.mem_of_mem_take hh) x h2
    · have h1 := hT x hx
      refine hfi _ ?_ x h1
      rw [List.getD_eq_getElem?_getD, List.getElem?_eq_getElem (by rw [hl_len]; exact hk)]
      exact List.getElem_mem _
  have HND := Lib.hid hnd
  have HFI := Lib.hid (fun (k : Nat) (hk : k < hs.length) (x : Int) (hx : x ∈ (hs.getD k zH).ps.map (fun p => p.r.f)) => hfi _ (show (hl hs).getD k (0, []) ∈ hl hs by
    rw [List.getD_eq_getElem?_getD, List.getElem?_eq_getElem (by rw [hl_len]; exact hk)]; exact List.getElem_mem _) x (by rw [frH_at]; exact hx))
  have HFS := Lib.hid (fun (k : Nat) (v : Int) (hk : k < hs.length) => frS_two (hl hs) v k (by rw [hl_len]; exact hk))
  have HALL : Hid (∀ v, frS ((hl hs).take hs.length) v = frS (hl hs) v) := fun v => by rw [List.take_of_length_le (by rw [hl_len]; exact Nat.le_refl _)]
  have HFE := Lib.hid hf.h
  clear hq1 hq2 hnd hfi hwk hsz
  obtain ⟨lv0, elv0⟩ : ∃ m, voted.length = m := ⟨_, rfl⟩
  obtain ⟨lp0, elp0⟩ : ∃ m, pr.length = m := ⟨_, rfl⟩
  obtain ⟨lo0, elo0⟩ : ∃ m, vo.length = m := ⟨_, rfl⟩
  obtain ⟨lr0, elr0⟩ : ∃ m, re.length = m := ⟨_, rfl⟩
  obtain ⟨ld0, eld0⟩ : ∃ m, ds.length = m := ⟨_, rfl⟩
  obtain ⟨lh0, elh0⟩ : ∃ m, hs.length = m := ⟨_, rfl⟩
  simp only [elv0, elp0, elo0, elr0, eld0, elh0]
  rw [elh0] at HALL
  have ELH := Lib.hid elh0
  have hlh : lh0 ≤ 1048576 := by rw [← elh0]; exact hf.h.1
  clear elv0 elp0 elo0 elr0 eld0 elh0 hr hf
  have ka := Blk.new w 40 #[.int .i64 (N : Int), .int .i64 id, .int .i64 own, .int .i64 view, .int .i64 left, .slice Av lv0 cv, .int .i64 lv, .int .i64 lx, .int .i64 dn, .slice Ap lp0 cp, .slice Ao lo0 co, .slice Ar lr0 cr, .slice Ad ld0 cd, .slice Ah lh0 ch]
  have hB := up_ (Below.refl w.heap.size w) (.cells #[.int .i64 (N : Int), .int .i64 id, .int .i64 own, .int .i64 view, .int .i64 left, .slice Av lv0 cv, .int .i64 lv, .int .i64 lx, .int .i64 dn, .slice Ap lp0 cp, .slice Ao lo0 co, .slice Ar lr0 cr, .slice Ad ld0 cd, .slice Ah lh0 ch] 40)
  have ra := ka.rule
  go_enter Try.func37, Try.ntmps37
  go_wp2
  go_loopw [3] (fun wv wr => ∃ v : Int, view ≤ v ∧ v ≤ 9 ∧ wv = .int .i64 v ∧ Hid (∀ u, v < u → u ≤ 9 → (nd (frS (hl hs) u) : Int) < wk) ∧ Blk wr w.heap.size 40 #[.int .i64 (N : Int), .int .i64 id, .int .i64 own, .int .i64 view, .int .i64 left, .slice Av lv0 cv, .int .i64 lv, .int .i64 lx, .int .i64 dn, .slice Ap lp0 cp, .slice Ao lo0 co, .slice Ar lr0 cr, .slice Ad ld0 cd, .slice Ah lh0 ch] ∧ Below w.heap.size w wr) (fun wv _ => (intOf wv - view).toNat)
  case atStart => exact ⟨9, hv9, by decide, rfl, fun u h1 h2 => absurd h2 (by omega), ka, hB⟩
  case round =>
    clear ra ka hB
    obtain ⟨v, hv1, hv2, rfl, hab, ka, hB⟩ := hrel
    have ra := ka.rule
    by_cases hvv : view < v
    · have kb0 := Blk.new wr 4 (madeCells #[.bool false] N)
      have ka1 := ka.alloc (.cells (madeCells #[.bool false] N) 4)
      have hB1 := hB.alloc hB.size (.cells (madeCells #[.bool false] N) 4)
      have hgl : w.heap.size < wr.heap.size := ka.lt
      have hPB := PBo.zero N
      obtain ⟨g, hgg⟩ : ∃ g, wr.heap.size = g := ⟨_, rfl⟩
      rw [hgg] at kb0 hgl
      have HGG := Lib.hid hgg
      go_wp2
      generalize (wr.alloc (.cells (madeCells #[.bool false] N) 4)) = w1 at *
      have HKA := Lib.hid ka1; have HKB := Lib.hid kb0; have HPB := Lib.hid hPB; have HB1 := Lib.hid hB1
      clear ra ka hB ka1 kb0 hPB hB1 hgg
      go_loopw [5, 6] (fun nn i w2 => ∃ (k : Nat) (cs : Array Value), k ≤ lh0 ∧ i = .int .i64 (k : Nat) ∧ nn = .int .i64 ((nd (frS ((hl hs).take k) v) : Nat) : Int) ∧ Hid (PBo cs N (frS ((hl hs).take k) v)) ∧ Blk w2 g 4 cs ∧ Blk w2 w.heap.size 40 #[.int .i64 (N : Int), .int .i64 id, .int .i64 own, .int .i64 view, .int .i64 left, .slice Av lv0 cv, .int .i64 lv, .int .i64 lx, .int .i64 dn, .slice Ap lp0 cp, .slice Ao lo0 co, .slice Ar lr0 cr, .slice Ad ld0 cd, .slice Ah lh0 ch] ∧ Below w.heap.size w w2) (fun _ i _ => lh0 - (intOf i).toNat)
      case atStart => exact ⟨0, _, Nat.zero_le _, rfl, rfl, HPB.out, HKB.out, HKA.out, HB1.out⟩
      case round =>
        clear HKA HKB HPB HB1 HGG
        obtain ⟨k, cs, hk, rfl, rfl, hpb, kb, ka, hB⟩ := hrel
        have ra := ka.rule
        by_cases hlt : k < lh0
        · have hkl : k < hs.length := by rw [ELH.out]; exact hlt
          go_wp2
          clear ra
          have HST := Lib.hid (HFS.out k v hkl)
          have hkp := (HFE.out.2 k hkl).1
          have HPB := Lib.hid hpb.out; have HKB := Lib.hid kb; have HKA := Lib.hid ka; have HB := Lib.hid hB
          clear hpb kb ka hB
          obtain ⟨⟨hv, ps, hA, hc⟩, hu⟩ : ∃ u, hs.getD k zH = u := ⟨_, rfl⟩
          have HNT := Lib.hid (fun T hT => HND.out k v 0 T hT hkl)
          have hfk := HFI.out k hkl
          have hv0 := hl_at hs k
          have hfr := frH_at hs k
          have HU2 := Lib.hid (fun W2 (h : Below w.heap.size w W2) => by have h9 := RdH.at_ (RH.out.below h) (k := k) hkl; rw [hu] at h9; exact h9)
          rw [hu] at hkp hfk hv0 hfr
          rw [hfr] at HNT HST
          rw [hv0] at HST
          dsimp only [hd1] at hkp hfk HST HNT HU2
          have HFK := Lib.hid hfk
          obtain ⟨m, hpm⟩ : ∃ m, ps.length = m := ⟨_, rfl⟩
          rw [hpm] at hkp HU2
          have HPM := Lib.hid hpm
          obtain ⟨S, hS⟩ : ∃ S, frS ((hl hs).take k) v = S := ⟨_, rfl⟩
          obtain ⟨S2, hS2⟩ : ∃ S, frS ((hl hs).take (k + 1)) v = S := ⟨_, rfl⟩
          rw [hS] at HST HNT HPB ⊢
          rw [hS2] at HST
          have HS2 := Lib.hid hS2
          clear hu hpm hfk hv0 hfr hS hS2
          go_loopw [5, 7] (fun nn kk w3 => ∃ (j : Nat) (cs : Array Value), j ≤ m ∧ (v ≤ hv ∨ j = 0) ∧ kk = .int .i64 (j : Nat) ∧ nn = .int .i64 ((nd (S ++ (ps.take j).map (fun p => p.r.f)) : Nat) : Int) ∧ Hid (PBo cs N (S ++ (ps.take j).map (fun p => p.r.f))) ∧ Blk w3 g 4 cs ∧ Blk w3 w.heap.size 40 #[.int .i64 (N : Int), .int .i64 id, .int .i64 own, .int .i64 view, .int .i64 left, .slice Av lv0 cv, .int .i64 lv, .int .i64 lx, .int .i64 dn, .slice Ap lp0 cp, .slice Ao lo0 co, .slice Ar lr0 cr, .slice Ad ld0 cd, .slice Ah lh0 ch] ∧ Below w.heap.size w w3) (fun _ kk _ => m - (intOf kk).toNat)
          case atStart => exact ⟨0, cs, Nat.zero_le _, .inr rfl, rfl, by simp, by show PBo _ _ _; simpa using HPB.out, HKB.out, HKA.out, HB.out⟩
          case round =>
            clear HPB HKB HKA HB
            obtain ⟨j, cs, hj, hvj, rfl, rfl, hpb, kb, ka, hB⟩ := hrel
            have ra := ka.rule
            obtain ⟨b_, off, rfl, hbb, hc0, hc1, hrr⟩ := HU2.out _ hB
            have HNE := Lib.hid (HNT.out)
            have hnn : nd (S ++ (ps.take j).map (fun p => p.r.f)) ≤ N := HNT.out _ fun x hx => map_take9 hx
            by_cases hgo : j < m ∧ v ≤ hv
            · obtain ⟨hjm, hvh⟩ := hgo
              obtain ⟨b2, off2, rfl, hbb2, hd0, hd1_, hd2, hd3, hrv⟩ := RdR.at_ hrr (k := j) (by rw [HPM.out]; exact hjm)
              have hmem : (ps.getD j zP).r.f ∈ ps.map (fun p => p.r.f) := by
                rw [List.getD_eq_getElem?_getD, List.getElem?_eq_getElem (by rw [HPM.out]; exact hjm)]; exact List.mem_map.2 ⟨_, List.getElem_mem _, rfl⟩
              have hfb := HFK.out _ hmem
              have htk : (ps.take (j + 1)).map (fun p => p.r.f) = (ps.take j).map (fun p => p.r.f) ++ [(ps.getD j zP).r.f] := by
                rw [take_getD ps zP j (by rw [HPM.out]; exact hjm)]; simp
              have hn2 : nd (S ++ (ps.take (j + 1)).map (fun p => p.r.f)) ≤ N := HNT.out _ fun x hx => map_take9 hx
              have HTK := Lib.hid htk
              rw [htk, ← List.append_assoc] at hn2
              obtain ⟨y, hy⟩ : ∃ y, (ps.getD j zP).r.f = y := ⟨_, rfl⟩
              rw [hy] at hd0 hfb hn2 HTK
              obtain ⟨Fn, rfl⟩ : ∃ Fn : Nat, y = (Fn : Int) := ⟨y.toNat, by omega⟩
              have hFN : Fn < N := by omega
              obtain ⟨T, hT⟩ : ∃ T, S ++ (ps.take j).map (fun p => p.r.f) = T := ⟨_, rfl⟩
              have HT := Lib.hid hT
              rw [hT] at hpb hnn hn2 ⊢
              have hcell := (kb.cell Fn).trans (hpb.out.2 Fn hFN)
              have f0 : (0 : Int) ≤ (Fn : Int) := by omega
              have f1 : (Fn : Int) < (N : Int) := by omega
              have fz := kb.frozen Fn
              clear hmem htk hy hfb hrr hrv hT hd1_ hd2 hd3
              by_cases hin : (Fn : Int) ∈ T
              · rw [decide_eq_true hin] at hcell
                have hno := nd_old hin
                have hpn := Lib.hid (hpb.out.old hin)
                have HNO := Lib.hid hno
                clear hin hno hn2
                go_wp2
                go_roundw
                case rel => exact ⟨j + 1, cs, by omega, .inl hvh, by go_num, by rw [HTK.out, ← List.append_assoc, HT.out, HNO.out], by show PBo _ _ _; rw [HTK.out, ← List.append_assoc, HT.out]; exact hpn.out, kb, ka, hB⟩
                case measure => simp [intOf]; omega
              · rw [decide_eq_false hin] at hcell
                have hno := nd_new hin
                rw [hno] at hn2
                have hpn := Lib.hid (hpb.out.new hFN)
                have HNO := Lib.hid hno
                have hgz : w.heap.size ≠ g := by omega
                clear hin hno
                go_wp2
                go_roundw
                case rel => exact ⟨j + 1, _, by omega, .inl hvh, by go_num, by rw [HTK.out, ← List.append_assoc, HT.out, HNO.out]; go_num, by show PBo _ _ _; rw [HTK.out, ← List.append_assoc, HT.out]; exact hpn.out, kb.set_ Fn (.bool true), ka.far (p := ⟨g, Fn, none⟩) hgz _, hB.setCell (p := ⟨g, Fn, none⟩) (by show w.heap.size ≤ g; omega) _⟩
                case measure => simp [intOf]; omega
            · have hend : S ++ (ps.take j).map (fun p => p.r.f) = S2 := by
                by_cases hvh : v ≤ hv
                · have : j = m := by omega
                  subst this
                  rw [HST.out.1 hvh, List.take_of_length_le (by rw [HPM.out]; exact Nat.le_refl _)]
                · have : j = 0 := by omega
                  subst this
                  rw [HST.out.2 (by omega)]; simp
              rw [hend] at hpb hnn ⊢
              by_cases hjm : j < m
              · have hvh : ¬ v ≤ hv := fun h => hgo ⟨hjm, h⟩
                clear hgo hrr hend
                go_wp2
                go_roundw
                case rel => exact ⟨k + 1, cs, by omega, by go_num, by rw [HS2.out], by show PBo _ _ _; rw [HS2.out]; exact hpb.out, kb, ka, hB⟩
                case measure => simp [intOf]; omega
              · clear hgo hrr hend
                go_wp2
                go_roundw
                case rel => exact ⟨k + 1, cs, by omega, by go_num, by rw [HS2.out], by show PBo _ _ _; rw [HS2.out]; exact hpb.out, kb, ka, hB⟩
                case measure => simp [intOf]; omega
        · obtain rfl : k = lh0 := by omega
          rw [HALL.out v]
          obtain ⟨D, hD⟩ : ∃ D, nd (frS (hl hs) v) = D := ⟨_, rfl⟩
          rw [hD]
          have HD := Lib.hid hD
          clear hD hpb kb
          go_wp2_with fail
          refine (HWK.out _).mono ?_
          rintro e w4 ⟨rfl, rfl⟩
          by_cases hge : wk ≤ (D : Int)
          · have hdec : decide (wk ≤ (D : Int)) = true := decide_eq_true hge
            obtain rfl := HQ1.out v hvv hv2 (by rw [HD.out]; exact hge) hab.out
            clear hge
            go_wp2
            go_ret
            exact ⟨rfl, hB⟩
          · have hdec : decide (wk ≤ (D : Int)) = false := decide_eq_false hge
            have HGE := Lib.hid hge
            clear hge
            go_wp2
            go_roundw
            case rel => exact ⟨v - 1, by omega, by omega, by go_num, fun u h1 h2 => by
              by_cases e : u = v
              · rw [e, HD.out]; have := HGE.out; omega
              · exact hab.out u (by omega) h2, ka, hB⟩
            case measure => simp [intOf]; omega
    · obtain rfl : v = view := by omega
      obtain rfl := HQ2.out hab.out
      clear hvv
      go_wp2
      go_ret
      exact ⟨rfl, hB⟩
set_option maxHeartbeats 1600000 in
theorem specJoin_is (q : Rq) (w : World) (hr : RdQ w w.heap.size q) (hf : FewQ q) :
    Calls Try.prog 9 #[q.agg] w fun e w' => e = .returned (.int .i64 (if repQ q.dat then joinQ q.dat else -1)) ∧ Below w.heap.size w w' := by
  rcases hg : repQ q.dat with _ | _
  · have HC := Lib.hid (fun (W : World) (h : Below w.heap.size w W) => specRepOk_is false q hg W ((hr.below h).more h.size) hf)
    clear hr hf hg
    obtain ⟨n, id, own, view, left, voted, lv, lx, dn, pr, vo, re, ds, hs, Av, Ap, Ao, Ar, Ad, Ah, cv, cp, co, cr, cd, ch⟩ := q
    simp only [Rq.agg, Rq.cells] at *
    obtain ⟨lv0, elv0⟩ : ∃ m, voted.length = m := ⟨_, rfl⟩
    obtain ⟨lp0, elp0⟩ : ∃ m, pr.length = m := ⟨_, rfl⟩
    obtain ⟨lo0, elo0⟩ : ∃ m, vo.length = m := ⟨_, rfl⟩
    obtain ⟨lr0, elr0⟩ : ∃ m, re.length = m := ⟨_, rfl⟩
    obtain ⟨ld0, eld0⟩ : ∃ m, ds.length = m := ⟨_, rfl⟩
    obtain ⟨lh0, elh0⟩ : ∃ m, hs.length = m := ⟨_, rfl⟩
    simp only [elv0, elp0, elo0, elr0, eld0, elh0] at HC ⊢
    clear elv0 elp0 elo0 elr0 eld0 elh0
    have ka := Blk.new w 40 #[.int .i64 n, .int .i64 id, .int .i64 own, .int .i64 view, .int .i64 left, .slice Av lv0 cv, .int .i64 lv, .int .i64 lx, .int .i64 dn, .slice Ap lp0 cp, .slice Ao lo0 co, .slice Ar lr0 cr, .slice Ad ld0 cd, .slice Ah lh0 ch]
    have hB := up_ (Below.refl w.heap.size w) (.cells #[.int .i64 n, .int .i64 id, .int .i64 own, .int .i64 view, .int .i64 left, .slice Av lv0 cv, .int .i64 lv, .int .i64 lx, .int .i64 dn, .slice Ap lp0 cp, .slice Ao lo0 co, .slice Ar lr0 cr, .slice Ad ld0 cd, .slice Ah lh0 ch] 40)
    have ra := ka.rule
    go_enter Try.func9, Try.ntmps9
    go_wp2_with fail
    refine (HC.out _ hB).mono ?_
    rintro e w1 ⟨rfl, hb⟩
    have hB1 := on_ hB hb
    go_wp2
    go_ret
    exact ⟨rfl, hB1⟩
  · rw [if_pos rfl]
    have HC := Lib.hid (fun (W : World) (h : Below w.heap.size w W) => specRepOk_is true q hg W ((hr.below h).more h.size) hf)
    have HJ := Lib.hid (fun (W : World) (h : Below w.heap.size w W) => l4join_any q hg W ((hr.below h).more h.size) hf)
    obtain ⟨z, hz⟩ : ∃ z, joinQ q.dat = z := ⟨_, rfl⟩
    rw [hz] at HJ ⊢
    clear hr hf hg hz
    obtain ⟨n, id, own, view, left, voted, lv, lx, dn, pr, vo, re, ds, hs, Av, Ap, Ao, Ar, Ad, Ah, cv, cp, co, cr, cd, ch⟩ := q
    simp only [Rq.agg, Rq.cells] at *
    obtain ⟨lv0, elv0⟩ : ∃ m, voted.length = m := ⟨_, rfl⟩
    obtain ⟨lp0, elp0⟩ : ∃ m, pr.length = m := ⟨_, rfl⟩
    obtain ⟨lo0, elo0⟩ : ∃ m, vo.length = m := ⟨_, rfl⟩
    obtain ⟨lr0, elr0⟩ : ∃ m, re.length = m := ⟨_, rfl⟩
    obtain ⟨ld0, eld0⟩ : ∃ m, ds.length = m := ⟨_, rfl⟩
    obtain ⟨lh0, elh0⟩ : ∃ m, hs.length = m := ⟨_, rfl⟩
    simp only [elv0, elp0, elo0, elr0, eld0, elh0] at HC HJ ⊢
    clear elv0 elp0 elo0 elr0 eld0 elh0
    have ka := Blk.new w 40 #[.int .i64 n, .int .i64 id, .int .i64 own, .int .i64 view, .int .i64 left, .slice Av lv0 cv, .int .i64 lv, .int .i64 lx, .int .i64 dn, .slice Ap lp0 cp, .slice Ao lo0 co, .slice Ar lr0 cr, .slice Ad ld0 cd, .slice Ah lh0 ch]
    have hB := up_ (Below.refl w.heap.size w) (.cells #[.int .i64 n, .int .i64 id, .int .i64 own, .int .i64 view, .int .i64 left, .slice Av lv0 cv, .int .i64 lv, .int .i64 lx, .int .i64 dn, .slice Ap lp0 cp, .slice Ao lo0 co, .slice Ar lr0 cr, .slice Ad ld0 cd, .slice Ah lh0 ch] 40)
    have ra := ka.rule
    go_enter Try.func9, Try.ntmps9
    go_wp2_with fail
    refine (HC.out _ hB).mono ?_
    rintro e w1 ⟨rfl, hb⟩
    have hB1 := on_ hB hb; have ka1 := ka.on hb; have ra1 := ka1.rule
    clear hB ka ra hb
    go_wp2_with fail
    refine (HJ.out _ hB1).mono ?_
    rintro e w2 ⟨rfl, hb⟩
    have hB2 := on_ hB1 hb
    go_wp2
    go_ret
    exact ⟨rfl, hB2⟩
set_option maxHeartbeats 1600000 in
theorem implJoin_is (q : Rq) (w : World) (hr : RdQ w w.heap.size q) (hf : FewQ q) :
    Calls Try.prog 11 #[q.agg] w fun e w' => e = .returned (.int .i64 (if repQ q.dat then joinQ q.dat else -1)) ∧ Below w.heap.size w w' := by
  rcases hg : repQ q.dat with _ | _
  · have HC := Lib.hid (fun (W : World) (h : Below w.heap.size w W) => implRepOk_is false q hg W ((hr.below h).more h.size) hf)
    clear hr hf hg
    obtain ⟨n, id, own, view, left, voted, lv, lx, dn, pr, vo, re, ds, hs, Av, Ap, Ao, Ar, Ad, Ah, cv, cp, co, cr, cd, ch⟩ := q
    simp only [Rq.agg, Rq.cells] at *
    obtain ⟨lv0, elv0⟩ : ∃ m, voted.length = m := ⟨_, rfl⟩
    obtain ⟨lp0, elp0⟩ : ∃ m, pr.length = m := ⟨_, rfl⟩
    obtain ⟨lo0, elo0⟩ : ∃ m, vo.length = m := ⟨_, rfl⟩
    obtain ⟨lr0, elr0⟩ : ∃ m, re.length = m := ⟨_, rfl⟩
    obtain ⟨ld0, eld0⟩ : ∃ m, ds.length = m := ⟨_, rfl⟩
    obtain ⟨lh0, elh0⟩ : ∃ m, hs.length = m := ⟨_, rfl⟩
    simp only [elv0, elp0, elo0, elr0, eld0, elh0] at HC ⊢
    clear elv0 elp0 elo0 elr0 eld0 elh0
    have ka := Blk.new w 40 #[.int .i64 n, .int .i64 id, .int .i64 own, .int .i64 view, .int .i64 left, .slice Av lv0 cv, .int .i64 lv, .int .i64 lx, .int .i64 dn, .slice Ap lp0 cp, .slice Ao lo0 co, .slice Ar lr0 cr, .slice Ad ld0 cd, .slice Ah lh0 ch]
    have hB := up_ (Below.refl w.heap.size w) (.cells #[.int .i64 n, .int .i64 id, .int .i64 own, .int .i64 view, .int .i64 left, .slice Av lv0 cv, .int .i64 lv, .int .i64 lx, .int .i64 dn, .slice Ap lp0 cp, .slice Ao lo0 co, .slice Ar lr0 cr, .slice Ad ld0 cd, .slice Ah lh0 ch] 40)
    have ra := ka.rule
    go_enter Try.func11, Try.ntmps11
    go_wp2_with fail
    refine (HC.out _ hB).mono ?_
    rintro e w1 ⟨rfl, hb⟩
    have hB1 := on_ hB hb
    go_wp2
    go_ret
    exact ⟨rfl, hB1⟩
  · rw [if_pos rfl]
    have HC := Lib.hid (fun (W : World) (h : Below w.heap.size w W) => implRepOk_is true q hg W ((hr.below h).more h.size) hf)
    have HJ := Lib.hid (fun (W : World) (h : Below w.heap.size w W) => joinView_any q hg (wf_from hg) W ((hr.below h).more h.size) hf)
    obtain ⟨z, hz⟩ : ∃ z, joinQ q.dat = z := ⟨_, rfl⟩
    rw [hz] at HJ ⊢
    clear hr hf hg hz
    obtain ⟨n, id, own, view, left, voted, lv, lx, dn, pr, vo, re, ds, hs, Av, Ap, Ao, Ar, Ad, Ah, cv, cp, co, cr, cd, ch⟩ := q
    simp only [Rq.agg, Rq.cells] at *
    obtain ⟨lv0, elv0⟩ : ∃ m, voted.length = m := ⟨_, rfl⟩
    obtain ⟨lp0, elp0⟩ : ∃ m, pr.length = m := ⟨_, rfl⟩
    obtain ⟨lo0, elo0⟩ : ∃ m, vo.length = m := ⟨_, rfl⟩
    obtain ⟨lr0, elr0⟩ : ∃ m, re.length = m := ⟨_, rfl⟩
    obtain ⟨ld0, eld0⟩ : ∃ m, ds.length = m := ⟨_, rfl⟩
    obtain ⟨lh0, elh0⟩ : ∃ m, hs.length = m := ⟨_, rfl⟩
    simp only [elv0, elp0, elo0, elr0, eld0, elh0] at HC HJ ⊢
    clear elv0 elp0 elo0 elr0 eld0 elh0
    have ka := Blk.new w 40 #[.int .i64 n, .int .i64 id, .int .i64 own, .int .i64 view, .int .i64 left, .slice Av lv0 cv, .int .i64 lv, .int .i64 lx, .int .i64 dn, .slice Ap lp0 cp, .slice Ao lo0 co, .slice Ar lr0 cr, .slice Ad ld0 cd, .slice Ah lh0 ch]
    have hB := up_ (Below.refl w.heap.size w) (.cells #[.int .i64 n, .int .i64 id, .int .i64 own, .int .i64 view, .int .i64 left, .slice Av lv0 cv, .int .i64 lv, .int .i64 lx, .int .i64 dn, .slice Ap lp0 cp, .slice Ao lo0 co, .slice Ar lr0 cr, .slice Ad ld0 cd, .slice Ah lh0 ch] 40)
    have ra := ka.rule
    go_enter Try.func11, Try.ntmps11
    go_wp2_with fail
    refine (HC.out _ hB).mono ?_
    rintro e w1 ⟨rfl, hb⟩
    have hB1 := on_ hB hb; have ka1 := ka.on hb; have ra1 := ka1.rule
    clear hB ka ra hb
    go_wp2_with fail
    refine (HJ.out _ hB1).mono ?_
    rintro e w2 ⟨rfl, hb⟩
    have hB2 := on_ hB1 hb
    go_wp2
    go_ret
    exact ⟨rfl, hB2⟩
end Go.Proofs.Ytfdfjmibjnmhpaa.V
