/-
  Who a state has heard of a view, of the model and of the program: contracts. No statement is proved here.
-/
import Derived.Test.YtfdfjmibjnmhpaaQTop
import Derived.Test.YtfdfjmibjnmhpaaTallyVoters
import Derived.Test.YtfdfjmibjnmhpaaTallyViews
import Derived.Test.YtfdfjmibjnmhpaaOwnI
set_option linter.unusedVariables false
set_option maxRecDepth 100000
namespace Go.Proofs.Ytfdfjmibjnmhpaa.V
open Go.RowKit Go.Proofs.Ytfdfjmibjnmhpaa.B
theorem litg (W : World) (u : Value) (g : Nat) (hg : W.heap.size = g) : Reads (W.alloc (.cells #[u] 3)) (g + 1) 1 (some ⟨g, 0, none⟩) 1 [u] := by subst hg; exact lit_int W u
def hFind (hs : List Hp) (v : Int) : Hp := (hs.find? fun h => decide (h.v = v)).getD zH
def hFrom (d : List (Int × List Rp)) (v : Int) : List Int := match d.find? (fun h => decide (h.1 = v)) with
  | some h => h.2.map Rp.f
  | none => []
def hfrC (d : Rd4) (v : Int) : List Int := if repQ d then hFrom d.hs v else []
theorem hFind_at : ∀ {hs : List Hp} {v : Int} {k : Nat}, k < hs.length → (∀ j, j < k → (hs.getD j zH).v ≠ v) → (hs.getD k zH).v = v → hFind hs v = hs.getD k zH
  | [], _, k, hk, _, _ => absurd hk (by simp)
  | h :: hs, v, 0, _, _, e => by
    simp only [List.getD_cons_zero] at e ⊢
    unfold hFind
    rw [List.find?_cons_of_pos (p := fun (h : Hp) => decide (h.v = v)) (decide_eq_true e)]
    rfl
  | h :: hs, v, k + 1, hk, ha, e => by
    have h0 := ha 0 (by omega)
    simp only [List.getD_cons_zero] at h0
    simp only [List.getD_cons_succ] at e ⊢
    have := hFind_at (hs := hs) (v := v) (k := k) (by simpa using hk) (fun j hj => by have := ha (j + 1) (by omega); simpa only [List.getD_cons_succ] using this) e
    unfold hFind at this ⊢
    rw [List.find?_cons_of_neg (by simp [h0]), this]
theorem hFind_no : ∀ {hs : List Hp} {v : Int}, (∀ j, j < hs.length → (hs.getD j zH).v ≠ v) → hFind hs v = zH
  | [], _, _ => rfl
  | h :: hs, v, ha => by
    have h0 := ha 0 (by simp)
    simp only [List.getD_cons_zero] at h0
    have := hFind_no (hs := hs) (v := v) (fun j hj => by have := ha (j + 1) (by simp; omega); simpa only [List.getD_cons_succ] using this)
    unfold hFind at this ⊢
    rw [List.find?_cons_of_neg (by simp [h0]), this]
theorem hFind_from : ∀ (hs : List Hp) (v : Int), (hFind hs v).ps.map (fun p => p.r.f) = hFrom (hl hs) v
  | [], _ => rfl
  | h :: hs, v => by
    have ih := hFind_from hs v
    unfold hFind hFrom at ih ⊢
    by_cases e : h.v = v
    · rw [List.find?_cons_of_pos (p := fun (h : Hp) => decide (h.v = v)) (decide_eq_true e)]
      simp only [hl, List.map_cons]
      rw [List.find?_cons_of_pos (p := fun (h : Int × List Rp) => decide (h.1 = v)) (decide_eq_true (show (hd1 h).1 = v from e))]
      simp [hd1, rl]
    · rw [List.find?_cons_of_neg (by simp [e])]
      simp only [hl, List.map_cons] at ih ⊢
      rw [List.find?_cons_of_neg (by simp [hd1, e])]
      exact ih
theorem hFind_mem (hs : List Hp) (v : Int) : (∃ k, k < hs.length ∧ hFind hs v = hs.getD k zH) ∨ hFind hs v = zH := by
  by_cases h : ∃ k, k < hs.length ∧ (hs.getD k zH).v = v
  · obtain ⟨k, hk, e⟩ := h
    have hall : ∀ k, k < hs.length → (hs.getD k zH).v = v → ∃ m, m < hs.length ∧ (hs.getD m zH).v = v ∧ ∀ j, j < m → (hs.getD j zH).v ≠ v := fun k => by
      induction k using Nat.strongRecOn with
      | ind k ih =>
        intro hk e
        by_cases hj : ∃ j, j < k ∧ (hs.getD j zH).v = v
        · obtain ⟨j, h1, h2⟩ := hj
          exact ih j h1 (by omega) h2
        · exact ⟨k, hk, e, fun j h1 h2 => hj ⟨j, h1, h2⟩⟩
    obtain ⟨m, h1, h2, h3⟩ := hall k hk e
    exact .inl ⟨m, h1, hFind_at h1 h3 h2⟩
  · exact .inr (hFind_no fun j hj e => h ⟨j, hj, e⟩)
theorem hFind_rd {w : World} {Bd : Nat} {A : Option Addr} {hs : List Hp} (h : RdH w Bd A hs) (v : Int) : RdR w Bd (hFind hs v).A (hFind hs v).ps := by
  rcases hFind_mem hs v with ⟨k, hk, e⟩ | e
  · rw [e]
    obtain ⟨_, _, _, _, _, _, hr⟩ := RdH.at_ h hk
    exact hr
  · rw [e]; exact RdR.nil_
theorem hFind_few {hs : List Hp} (h : FewH hs) (v : Int) : Few (hFind hs v).ps := by
  rcases hFind_mem hs v with ⟨k, hk, e⟩ | e
  · rw [e]; exact h.2 k hk
  · rw [e]; exact ⟨by simp [zH], fun i hi => absurd hi (by simp [zH])⟩
set_option maxHeartbeats 1600000 in
theorem l4heard_is (q : Rq) (v : Int) (w : World) (hr : RdQ w w.heap.size q) (hf : FewQ q) :
    Calls Try.prog 55 #[q.agg, .int .i64 v] w fun e w' => e = .returned (.slice (hFind q.hs v).A (hFind q.hs v).ps.length (hFind q.hs v).c) ∧ Below w.heap.size w w' := by
  obtain ⟨n, id, own, view, left, voted, lv, lx, dn, pr, vo, re, ds, hs, Av, Ap, Ao, Ar, Ad, Ah, cv, cp, co, cr, cd, ch⟩ := q
  obtain ⟨rv, rp, ro, rr, rd, rh⟩ := hr
  obtain ⟨fv, fp, fo, fr, fd, fh⟩ := hf
  simp only [Rq.agg, Rq.cells] at *
  obtain ⟨lv0, elv0⟩ : ∃ m, voted.length = m := ⟨_, rfl⟩
  obtain ⟨lp0, elp0⟩ : ∃ m, pr.length = m := ⟨_, rfl⟩
  obtain ⟨lo0, elo0⟩ : ∃ m, vo.length = m := ⟨_, rfl⟩
  obtain ⟨lr0, elr0⟩ : ∃ m, re.length = m := ⟨_, rfl⟩
  obtain ⟨ld0, eld0⟩ : ∃ m, ds.length = m := ⟨_, rfl⟩
  obtain ⟨lh0, elh0⟩ : ∃ m, hs.length = m := ⟨_, rfl⟩
  simp only [elv0, elp0, elo0, elr0, eld0, elh0] at ⊢
  have RH := Lib.hid rh; have ELH := Lib.hid elh0
  have blh : lh0 ≤ 1048576 := by rw [← elh0]; exact fh.1
  clear elv0 elp0 elo0 elr0 eld0 elh0 rv rp ro rr rd rh fv fp fo fr fd fh
  obtain ⟨RA, hRA⟩ : ∃ x, (hFind hs v).A = x := ⟨_, rfl⟩
  obtain ⟨RN, hRN⟩ : ∃ x, (hFind hs v).ps.length = x := ⟨_, rfl⟩
  obtain ⟨RC, hRC⟩ : ∃ x, (hFind hs v).c = x := ⟨_, rfl⟩
  rw [hRA, hRN, hRC]
  have HF := Lib.hid (show ∀ h : Hp, hFind hs v = h → RA = h.A ∧ RN = h.ps.length ∧ RC = h.c from fun h e => by rw [← hRA, ← hRN, ← hRC, e]; exact ⟨rfl, rfl, rfl⟩)
  clear hRA hRN hRC
  have ka := Blk.new w 40 #[.int .i64 n, .int .i64 id, .int .i64 own, .int .i64 view, .int .i64 left, .slice Av lv0 cv, .int .i64 lv, .int .i64 lx, .int .i64 dn, .slice Ap lp0 cp, .slice Ao lo0 co, .slice Ar lr0 cr, .slice Ad ld0 cd, .slice Ah lh0 ch]
  have hB := up_ (Below.refl w.heap.size w) (.cells #[.int .i64 n, .int .i64 id, .int .i64 own, .int .i64 view, .int .i64 left, .slice Av lv0 cv, .int .i64 lv, .int .i64 lx, .int .i64 dn, .slice Ap lp0 cp, .slice Ao lo0 co, .slice Ar lr0 cr, .slice Ad ld0 cd, .slice Ah lh0 ch] 40)
  have HKA := Lib.hid ka; have HB1 := Lib.hid hB
  have ra := ka.rule
  go_enter Try.func55, Try.ntmps55
  clear ka hB
  go_wp2
  go_loopw [5] (fun i wr => ∃ (k : Nat), k ≤ lh0 ∧ i = .int .i64 k ∧ Hid (∀ j, j < k → (hs.getD j zH).v ≠ v) ∧ Blk wr w.heap.size 40 #[.int .i64 n, .int .i64 id, .int .i64 own, .int .i64 view, .int .i64 left, .slice Av lv0 cv, .int .i64 lv, .int .i64 lx, .int .i64 dn, .slice Ap lp0 cp, .slice Ao lo0 co, .slice Ar lr0 cr, .slice Ad ld0 cd, .slice Ah lh0 ch] ∧ Below w.heap.size w wr) (fun i _ => lh0 - (intOf i).toNat)
  case atStart => exact ⟨0, Nat.zero_le _, rfl, fun j hj => absurd hj (by omega), HKA.out, HB1.out⟩
  case round =>
    obtain ⟨k, hk, rfl, hall, ka, hB⟩ := hrel
    clear ra HKA HB1
    have ra := ka.rule
    by_cases hlt : k < lh0
    · obtain ⟨b, off, rfl, hb, hc0, hc1, hrr⟩ := RdH.at_ (RH.out.below hB) (k := k) (by rw [ELH.out]; omega)
      clear hrr
      obtain ⟨⟨hv, hps, hA, hc⟩, hu⟩ : ∃ u, hs.getD k zH = u := ⟨_, rfl⟩
      rw [hu] at hc0 hc1
      simp only at hc0 hc1
      have HU := Lib.hid hu; clear hu
      have hup : Below w.heap.size w (wr) := hB
      have kup := ka
      by_cases hx : hv = v
      · subst hx
        obtain ⟨e1, e2, e3⟩ := HF.out _ (hFind_at (k := k) (by rw [ELH.out]; omega) hall.out (by rw [HU.out]))
        rw [HU.out] at e1 e2 e3
        simp only at e1 e2 e3
        clear HF
        subst e1
        subst e2
        subst e3
        go_wp2
        go_ret
        exact ⟨rfl, hup⟩
      · have hx' : (hv == v) = false := by simpa using hx
        have HX := Lib.hid hx; clear hx
        go_wp2
        go_roundw
        case rel =>
          refine ⟨k + 1, by omega, by go_num, fun j hj => ?_, kup, hup⟩
          by_cases e : j = k
          · rw [e, HU.out]; exact HX.out
          · exact hall.out j (by omega)
        case measure => simp [intOf]; omega
    · obtain ⟨e1, e2, e3⟩ := HF.out _ (hFind_no fun j hj => hall.out j (by rw [ELH.out] at hj; omega))
      simp only [zH] at e1 e2 e3
      subst e1 e2 e3
      go_wp2
      go_ret
      exact ⟨rfl, hB⟩
set_option maxHeartbeats 1600000 in
theorem reportsIn_is (q : Rq) (v : Int) (w : World) (hr : RdQ w w.heap.size q) (hf : FewQ q) :
    Calls Try.prog 56 #[q.agg, .int .i64 v] w fun e w' => e = .returned (.slice (hFind q.hs v).A (hFind q.hs v).ps.length (hFind q.hs v).c) ∧ Below w.heap.size w w' := by
  obtain ⟨n, id, own, view, left, voted, lv, lx, dn, pr, vo, re, ds, hs, Av, Ap, Ao, Ar, Ad, Ah, cv, cp, co, cr, cd, ch⟩ := q
  obtain ⟨rv, rp, ro, rr, rd, rh⟩ := hr
  obtain ⟨fv, fp, fo, fr, fd, fh⟩ := hf
  simp only [Rq.agg, Rq.cells] at *
  obtain ⟨lv0, elv0⟩ : ∃ m, voted.length = m := ⟨_, rfl⟩
  obtain ⟨lp0, elp0⟩ : ∃ m, pr.length = m := ⟨_, rfl⟩
  obtain ⟨lo0, elo0⟩ : ∃ m, vo.length = m := ⟨_, rfl⟩
  obtain ⟨lr0, elr0⟩ : ∃ m, re.length = m := ⟨_, rfl⟩
  obtain ⟨ld0, eld0⟩ : ∃ m, ds.length = m := ⟨_, rfl⟩
  obtain ⟨lh0, elh0⟩ : ∃ m, hs.length = m := ⟨_, rfl⟩
  simp only [elv0, elp0, elo0, elr0, eld0, elh0] at ⊢
  have RH := Lib.hid rh; have ELH := Lib.hid elh0
  have blh : lh0 ≤ 1048576 := by rw [← elh0]; exact fh.1
  clear elv0 elp0 elo0 elr0 eld0 elh0 rv rp ro rr rd rh fv fp fo fr fd fh
  obtain ⟨RA, hRA⟩ : ∃ x, (hFind hs v).A = x := ⟨_, rfl⟩
  obtain ⟨RN, hRN⟩ : ∃ x, (hFind hs v).ps.length = x := ⟨_, rfl⟩
  obtain ⟨RC, hRC⟩ : ∃ x, (hFind hs v).c = x := ⟨_, rfl⟩
  rw [hRA, hRN, hRC]
  have HF := Lib.hid (show ∀ h : Hp, hFind hs v = h → RA = h.A ∧ RN = h.ps.length ∧ RC = h.c from fun h e => by rw [← hRA, ← hRN, ← hRC, e]; exact ⟨rfl, rfl, rfl⟩)
  clear hRA hRN hRC
  have ka := Blk.new w 40 #[.int .i64 n, .int .i64 id, .int .i64 own, .int .i64 view, .int .i64 left, .slice Av lv0 cv, .int .i64 lv, .int .i64 lx, .int .i64 dn, .slice Ap lp0 cp, .slice Ao lo0 co, .slice Ar lr0 cr, .slice Ad ld0 cd, .slice Ah lh0 ch]
  have hB := up_ (Below.refl w.heap.size w) (.cells #[.int .i64 n, .int .i64 id, .int .i64 own, .int .i64 view, .int .i64 left, .slice Av lv0 cv, .int .i64 lv, .int .i64 lx, .int .i64 dn, .slice Ap lp0 cp, .slice Ao lo0 co, .slice Ar lr0 cr, .slice Ad ld0 cd, .slice Ah lh0 ch] 40)
  have HKA := Lib.hid ka; have HB1 := Lib.hid hB
  have ra := ka.rule
  go_enter Try.func56, Try.ntmps56
  clear ka hB
  go_wp2
  go_loopw [10] (fun i wr => ∃ (k : Nat), k ≤ lh0 ∧ i = .int .i64 k ∧ Hid (∀ j, j < k → (hs.getD j zH).v ≠ v) ∧ Blk wr w.heap.size 40 #[.int .i64 n, .int .i64 id, .int .i64 own, .int .i64 view, .int .i64 left, .slice Av lv0 cv, .int .i64 lv, .int .i64 lx, .int .i64 dn, .slice Ap lp0 cp, .slice Ao lo0 co, .slice Ar lr0 cr, .slice Ad ld0 cd, .slice Ah lh0 ch] ∧ Below w.heap.size w wr) (fun i _ => lh0 - (intOf i).toNat)
  case atStart => exact ⟨0, Nat.zero_le _, rfl, fun j hj => absurd hj (by omega), HKA.out, HB1.out⟩
  case round =>
    obtain ⟨k, hk, rfl, hall, ka, hB⟩ := hrel
    clear ra HKA HB1
    have ra := ka.rule
    by_cases hlt : k < lh0
    · obtain ⟨b, off, rfl, hb, hc0, hc1, hrr⟩ := RdH.at_ (RH.out.below hB) (k := k) (by rw [ELH.out]; omega)
      clear hrr
      obtain ⟨⟨hv, hps, hA, hc⟩, hu⟩ : ∃ u, hs.getD k zH = u := ⟨_, rfl⟩
      rw [hu] at hc0 hc1
      simp only at hc0 hc1
      have HU := Lib.hid hu; clear hu
      have hup : Below w.heap.size w (wr.alloc (.cells #[.int .i64 hv, .slice hA hps.length hc] 122)) := hB.alloc hB.size _
      have kup := ka.alloc (.cells #[.int .i64 hv, .slice hA hps.length hc] 122)
      by_cases hx : hv = v
      · subst hx
        obtain ⟨e1, e2, e3⟩ := HF.out _ (hFind_at (k := k) (by rw [ELH.out]; omega) hall.out (by rw [HU.out]))
        rw [HU.out] at e1 e2 e3
        simp only at e1 e2 e3
        clear HF
        subst e1
        subst e2
        subst e3
        go_wp2
        go_ret
        exact ⟨rfl, hup⟩
      · have hx' : (hv == v) = false := by simpa using hx
        have HX := Lib.hid hx; clear hx
        go_wp2
        go_roundw
        case rel =>
          refine ⟨k + 1, by omega, by go_num, fun j hj => ?_, kup, hup⟩
          by_cases e : j = k
          · rw [e, HU.out]; exact HX.out
          · exact hall.out j (by omega)
        case measure => simp [intOf]; omega
    · obtain ⟨e1, e2, e3⟩ := HF.out _ (hFind_no fun j hj => hall.out j (by rw [ELH.out] at hj; omega))
      simp only [zH] at e1 e2 e3
      subst e1 e2 e3
      go_wp2
      go_ret
      exact ⟨rfl, hB⟩
set_option maxHeartbeats 3200000 in
theorem specHear_is (q : Rq) (v : Int) (w : World) (hr : RdQ w w.heap.size q) (hf : FewQ q) :
    Calls Try.prog 19 #[q.agg, .int .i64 v] w (NRes (hfrC q.dat v) w) := by
  obtain ⟨i0, hi0, hz0, hz1, hz2⟩ := info_parts infoI
  obtain ⟨g, hg⟩ : ∃ g, repQ q.dat = g := ⟨_, rfl⟩
  have HC := Lib.hid (fun (W : World) (h : Below w.heap.size w W) => specRepOk_is g q hg W ((hr.below h).more h.size) hf)
  have HS := Lib.hid (fun (W : World) (h : Below w.heap.size w W) => l4heard_is q v W ((hr.below h).more h.size) hf)
  have hz' : hfrC q.dat v = (if g then (hFind q.hs v).ps.map (fun p => p.r.f) else []) := by rw [hFind_from, ← hg]; rfl
  have RR := Lib.hid (hFind_rd hr.h v)
  have hfw := (hFind_few hf.h v).1
  rw [hz']
  obtain ⟨⟨hv0, ps, hA, hc⟩, hH⟩ : ∃ h, hFind q.hs v = h := ⟨_, rfl⟩
  rw [hH] at HS RR hfw ⊢
  simp only at HS RR hfw ⊢
  clear hH hz' hg
  obtain ⟨n, id, own, view, left, voted, lv, lx, dn, pr, vo, re, ds, hs, Av, Ap, Ao, Ar, Ad, Ah, cv, cp, co, cr, cd, ch⟩ := q
  obtain ⟨rv, rp, ro, rr, rd, rh⟩ := hr
  obtain ⟨fv, fp, fo, fr, fd, fh⟩ := hf
  simp only [Rq.agg, Rq.cells] at HC HS ⊢
  obtain ⟨lv0, elv0⟩ : ∃ m, voted.length = m := ⟨_, rfl⟩
  obtain ⟨lp0, elp0⟩ : ∃ m, pr.length = m := ⟨_, rfl⟩
  obtain ⟨lo0, elo0⟩ : ∃ m, vo.length = m := ⟨_, rfl⟩
  obtain ⟨lr0, elr0⟩ : ∃ m, re.length = m := ⟨_, rfl⟩
  obtain ⟨ld0, eld0⟩ : ∃ m, ds.length = m := ⟨_, rfl⟩
  obtain ⟨lh0, elh0⟩ : ∃ m, hs.length = m := ⟨_, rfl⟩
  simp only [elv0, elp0, elo0, elr0, eld0, elh0] at HC HS ⊢
  clear elv0 elp0 elo0 elr0 eld0 elh0 rv rp ro rr rd rh fv fp fo fr fd fh
  obtain ⟨L, hL⟩ : ∃ L : List Int, (if g then ps.map (fun p => p.r.f) else []) = L := ⟨_, rfl⟩
  rw [hL]
  have HLL := Lib.hid hL; clear hL
  obtain ⟨np, enp⟩ : ∃ m, ps.length = m := ⟨_, rfl⟩
  rw [enp] at HS hfw
  have ENP := Lib.hid enp; clear enp
  have ka := Blk.new w 40 #[.int .i64 n, .int .i64 id, .int .i64 own, .int .i64 view, .int .i64 left, .slice Av lv0 cv, .int .i64 lv, .int .i64 lx, .int .i64 dn, .slice Ap lp0 cp, .slice Ao lo0 co, .slice Ar lr0 cr, .slice Ad ld0 cd, .slice Ah lh0 ch]
  have hB := up_ (Below.refl w.heap.size w) (.cells #[.int .i64 n, .int .i64 id, .int .i64 own, .int .i64 view, .int .i64 left, .slice Av lv0 cv, .int .i64 lv, .int .i64 lx, .int .i64 dn, .slice Ap lp0 cp, .slice Ao lo0 co, .slice Ar lr0 cr, .slice Ad ld0 cd, .slice Ah lh0 ch] 40)
  have ra := ka.rule
  go_enter Try.func19, Try.ntmps19
  go_wp2_with fail
  refine (HC.out _ hB).mono ?_
  rintro e w1 ⟨rfl, hb⟩
  have ka1 := ka.on hb; have hB1 := on_ hB hb; clear ra ka hB hb; have ra := ka1.rule
  rcases g with _ | _
  · go_wp2
    go_ret
    have e0 : L = [] := HLL.out.symm
    rw [e0]
    exact ⟨.slice none 0 0, rfl, World.ownsRow_nil _ _ _ _, hB1⟩
  · go_wp2_with fail
    refine (HS.out _ hB1).mono ?_
    rintro e w2 ⟨rfl, hb⟩
    have hB2 := on_ hB1 hb; clear ra ka1 hB1 hb HC HS
    have HB2 := Lib.hid hB2; clear hB2
    go_wp2
    go_loopw [5, 7] (fun out i wr => ∃ (k : Nat), k ≤ np ∧ i = .int .i64 k ∧ wr.ownsRow w.heap.size 3 1 out k (ic ((ps.take k).map (fun p => p.r.f))) ∧ Hid (Below w.heap.size w wr)) (fun _ i _ => np - (intOf i).toNat)
    case atStart => exact ⟨0, Nat.zero_le _, rfl, World.ownsRow_nil _ _ _ _, HB2.out⟩
    case round =>
      clear HB2
      obtain ⟨k, hk, rfl, hown, hB⟩ := hrel
      have hwz := hB.out.size
      by_cases hlt : k < np
      · obtain ⟨b, off, rfl, hb, hc0, hc1, hc2, hc3, hrr⟩ := RdR.at_ (RR.out.below hB.out) (k := k) (by rw [ENP.out]; exact hlt)
        clear hrr
        have htk : Hid (ic ((ps.take (k + 1)).map (fun p => p.r.f)) = ic ((ps.take k).map (fun p => p.r.f)) ++ [.int .i64 (ps.getD k zP).r.f]) := by
          show _ = _
          rw [take_getD ps zP k (by rw [ENP.out]; exact hlt)]
          simp [ic]
        obtain ⟨⟨⟨rf, rv, rx, rvs⟩, rA, rc⟩, hu⟩ : ∃ u, ps.getD k zP = u := ⟨_, rfl⟩
        rw [hu] at hc0 hc1 hc2 hc3 htk
        simp only at hc0 hc1 hc2 hc3 htk
        clear hu
        go_wp2_with (at_builtin; refine wpList_append_any _ rfl (.tmp 20) (.tmp 26) 52 rfl w.heap.size 3 i0 _ 1 8 Try.underlying52 hi0 hz0 hz1 hz2 rfl (by omega) u5 k _ rfl (hown.alloc _) _ _ 1 1 [.int .i64 rf] rfl (lit_int _ _) (by simp [Value.oneCell']) (by simp only [maxLen]; omega) (by omega) (by simp; omega) ?_; intro v2 w3 hown2 hgr2 hat2)
        have hB3 := (hB.out.alloc hwz (.cells #[.int .i64 rf] 3)).grown hgr2 (by simp; omega) (fun j hj => (hown.lt j hj).1)
        go_roundw
        case rel => exact ⟨k + 1, by omega, by go_num, by show World.ownsRow _ _ _ _ _ _ _; rw [htk.out]; exact hown2, hB3⟩
        case measure => simp [intOf]; omega
      · obtain rfl : k = np := by omega
        go_wp2
        go_ret
        have e1 : (ps.take k).map (fun p => p.r.f) = L := by rw [← HLL.out, List.take_of_length_le (by rw [ENP.out]; exact Nat.le_refl _)]; rfl
        rw [e1] at hown
        have e2 : L.length = k := by rw [← e1, List.length_map, List.length_take, ENP.out]; omega
        refine ⟨_, rfl, ?_, hB.out⟩
        rw [e2]
        exact hown
set_option maxHeartbeats 3200000 in
theorem implHear_is (q : Rq) (v : Int) (w : World) (hr : RdQ w w.heap.size q) (hf : FewQ q) :
    Calls Try.prog 20 #[q.agg, .int .i64 v] w (NRes (hfrC q.dat v) w) := by
  obtain ⟨i0, hi0, hz0, hz1, hz2⟩ := info_parts infoI
  obtain ⟨g, hg⟩ : ∃ g, repQ q.dat = g := ⟨_, rfl⟩
  have HC := Lib.hid (fun (W : World) (h : Below w.heap.size w W) => implRepOk_is g q hg W ((hr.below h).more h.size) hf)
  have HS := Lib.hid (fun (W : World) (h : Below w.heap.size w W) => reportsIn_is q v W ((hr.below h).more h.size) hf)
  have hz' : hfrC q.dat v = (if g then (hFind q.hs v).ps.map (fun p => p.r.f) else []) := by rw [hFind_from, ← hg]; rfl
  have RR := Lib.hid (hFind_rd hr.h v)
  have hfw := (hFind_few hf.h v).1
  rw [hz']
  obtain ⟨⟨hv0, ps, hA, hc⟩, hH⟩ : ∃ h, hFind q.hs v = h := ⟨_, rfl⟩
  rw [hH] at HS RR hfw ⊢
  simp only at HS RR hfw ⊢
  clear hH hz' hg
  obtain ⟨n, id, own, view, left, voted, lv, lx, dn, pr, vo, re, ds, hs, Av, Ap, Ao, Ar, Ad, Ah, cv, cp, co, cr, cd, ch⟩ := q
  obtain ⟨rv, rp, ro, rr, rd, rh⟩ := hr
  obtain ⟨fv, fp, fo, fr, fd, fh⟩ := hf
  simp only [Rq.agg, Rq.cells] at HC HS ⊢
  obtain ⟨lv0, elv0⟩ : ∃ m, voted.length = m := ⟨_, rfl⟩
  obtain ⟨lp0, elp0⟩ : ∃ m, pr.length = m := ⟨_, rfl⟩
  obtain ⟨lo0, elo0⟩ : ∃ m, vo.length = m := ⟨_, rfl⟩
  obtain ⟨lr0, elr0⟩ : ∃ m, re.length = m := ⟨_, rfl⟩
  obtain ⟨ld0, eld0⟩ : ∃ m, ds.length = m := ⟨_, rfl⟩
  obtain ⟨lh0, elh0⟩ : ∃ m, hs.length = m := ⟨_, rfl⟩
  simp only [elv0, elp0, elo0, elr0, eld0, elh0] at HC HS ⊢
  clear elv0 elp0 elo0 elr0 eld0 elh0 rv rp ro rr rd rh fv fp fo fr fd fh
  obtain ⟨L, hL⟩ : ∃ L : List Int, (if g then ps.map (fun p => p.r.f) else []) = L := ⟨_, rfl⟩
  rw [hL]
  have HLL := Lib.hid hL; clear hL
  obtain ⟨np, enp⟩ : ∃ m, ps.length = m := ⟨_, rfl⟩
  rw [enp] at HS hfw
  have ENP := Lib.hid enp; clear enp
  have ka := Blk.new w 40 #[.int .i64 n, .int .i64 id, .int .i64 own, .int .i64 view, .int .i64 left, .slice Av lv0 cv, .int .i64 lv, .int .i64 lx, .int .i64 dn, .slice Ap lp0 cp, .slice Ao lo0 co, .slice Ar lr0 cr, .slice Ad ld0 cd, .slice Ah lh0 ch]
  have hB := up_ (Below.refl w.heap.size w) (.cells #[.int .i64 n, .int .i64 id, .int .i64 own, .int .i64 view, .int .i64 left, .slice Av lv0 cv, .int .i64 lv, .int .i64 lx, .int .i64 dn, .slice Ap lp0 cp, .slice Ao lo0 co, .slice Ar lr0 cr, .slice Ad ld0 cd, .slice Ah lh0 ch] 40)
  have ra := ka.rule
  go_enter Try.func20, Try.ntmps20
  go_wp2_with fail
  refine (HC.out _ hB).mono ?_
  rintro e w1 ⟨rfl, hb⟩
  have ka1 := ka.on hb; have hB1 := on_ hB hb; clear ra ka hB hb; have ra := ka1.rule
  rcases g with _ | _
  · go_wp2
    go_ret
    have e0 : L = [] := HLL.out.symm
    rw [e0]
    exact ⟨.slice none 0 0, rfl, World.ownsRow_nil _ _ _ _, hB1⟩
  · go_wp2_with fail
    refine (HS.out _ hB1).mono ?_
    rintro e w2 ⟨rfl, hb⟩
    have hB2 := on_ hB1 hb; clear ra ka1 hB1 hb HC HS
    have HB2 := Lib.hid hB2; clear hB2
    go_wp2
    go_loopw [5, 15] (fun out i wr => ∃ (k : Nat), k ≤ np ∧ i = .int .i64 k ∧ wr.ownsRow w.heap.size 3 1 out k (ic ((ps.take k).map (fun p => p.r.f))) ∧ Hid (Below w.heap.size w wr)) (fun _ i _ => np - (intOf i).toNat)
    case atStart => exact ⟨0, Nat.zero_le _, rfl, World.ownsRow_nil _ _ _ _, HB2.out⟩
    case round =>
      clear HB2
      obtain ⟨k, hk, rfl, hown, hB⟩ := hrel
      have hwz := hB.out.size
      by_cases hlt : k < np
      · obtain ⟨b, off, rfl, hb, hc0, hc1, hc2, hc3, hrr⟩ := RdR.at_ (RR.out.below hB.out) (k := k) (by rw [ENP.out]; exact hlt)
        clear hrr
        have htk : Hid (ic ((ps.take (k + 1)).map (fun p => p.r.f)) = ic ((ps.take k).map (fun p => p.r.f)) ++ [.int .i64 (ps.getD k zP).r.f]) := by
          show _ = _
          rw [take_getD ps zP k (by rw [ENP.out]; exact hlt)]
          simp [ic]
        obtain ⟨⟨⟨rf, rv, rx, rvs⟩, rA, rc⟩, hu⟩ : ∃ u, ps.getD k zP = u := ⟨_, rfl⟩
        rw [hu] at hc0 hc1 hc2 hc3 htk
        simp only at hc0 hc1 hc2 hc3 htk
        clear hu
        have kb := Blk.new wr 89 #[.int .i64 rf, .int .i64 rv, .int .i64 rx, .slice rA rvs.length rc]
        have hBu := Lib.hid (hB.out.alloc hwz (.cells #[.int .i64 rf, .int .i64 rv, .int .i64 rx, .slice rA rvs.length rc] 89))
        have hou := hown.alloc (.cells #[.int .i64 rf, .int .i64 rv, .int .i64 rx, .slice rA rvs.length rc] 89)
        have rb := kb.rule
        go_wp2_with (at_builtin; (refine wpList_append_any _ rfl (.tmp 19) (.tmp 22) 52 rfl w.heap.size 3 i0 _ 1 8 Try.underlying52 hi0 hz0 hz1 hz2 rfl (by omega) u5 k _ rfl (hou.alloc _) _ _ 1 1 [.int .i64 rf] rfl (litg _ _ _ (World.size_alloc _ _)) (by simp [Value.oneCell']) (by simp only [maxLen]; omega) (by omega) (by simp; omega) ?_); intro v2 w3 hown2 hgr2 hat2)
        have hB3 := (hBu.out.alloc (by simp; omega) (.cells #[.int .i64 rf] 3)).grown hgr2 (by simp; omega) (fun j hj => (hown.lt j hj).1)
        go_roundw
        case rel => exact ⟨k + 1, by omega, by go_num, by show World.ownsRow _ _ _ _ _ _ _; rw [htk.out]; exact hown2, hB3⟩
        case measure => simp [intOf]; omega
      · obtain rfl : k = np := by omega
        go_wp2
        go_ret
        have e1 : (ps.take k).map (fun p => p.r.f) = L := by rw [← HLL.out, List.take_of_length_le (by rw [ENP.out]; exact Nat.le_refl _)]; rfl
        rw [e1] at hown
        have e2 : L.length = k := by rw [← e1, List.length_map, List.length_take, ENP.out]; omega
        refine ⟨_, rfl, ?_, hB.out⟩
        rw [e2]
        exact hown
theorem hfr_small (q : Rq) (v : Int) (hf : FewQ q) : (hfrC q.dat v).length ≤ 1048576 := by
  unfold hfrC
  split
  · rw [show q.dat.hs = hl q.hs from rfl, ← hFind_from, List.length_map]
    exact (hFind_few hf.h v).1
  · simp
end Go.Proofs.Ytfdfjmibjnmhpaa.V
