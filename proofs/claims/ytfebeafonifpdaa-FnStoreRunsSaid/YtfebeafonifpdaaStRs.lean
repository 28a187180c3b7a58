/-
  StoreRun of the model: contract. No statement is proved here.
-/
import Derived.Test.YtfebeafonifpdaaStR
set_option linter.unusedVariables false
set_option maxRecDepth 100000
namespace Go.Proofs.Ytfebeafonifpdaa.V
open Go.RowKit Go.Proofs.Ytfebeafonifpdaa.B

/-- What the operations of the literal yield. -/
def LV2 (w0 : World) (p : Nat) (A : Option Addr) (c : Nat) (m m' : Int) (xs : List Int) (j : Nat) (u : Value) (w' : World) : Prop :=
  match j with
  | 0 => ∃ b : Nat, u = .slice (some ⟨b, 0, none⟩) 0 0
  | 1 => u = .pointer (some ⟨p, 0, none⟩)
  | 2 => u = .slice A 4 c
  | 3 => ∃ B d, u = .slice B 4 d ∧ w'.ownsRow w0.heap.size 3 1 (.slice B 4 d) 4 (xs.map (Value.int .i64))
  | 4 => u = .pointer (some ⟨p, 1, none⟩)
  | 5 => u = .int .i64 m
  | 6 => ∃ B d, u = .agg #[.slice B 4 d, .int .i64 m'] ∧ w'.ownsRow w0.heap.size 3 1 (.slice B 4 d) 4 (xs.map (Value.int .i64))
  | 7 => ∃ o, u = .pointer (some ⟨o, 0, none⟩) ∧ w0.heap.size ≤ o ∧ Blk w' o 36 #[.slice none 0 0, .int .i64 0]
  | _ => True
theorem LV2.keep {w0 : World} {p : Nat} {A : Option Addr} {c : Nat} {m m' : Int} {xs : List Int} : ∀ j u w1 w2, LV2 w0 p A c m m' xs j u w1 → Below w1.heap.size w1 w2 → LV2 w0 p A c m m' xs j u w2 := by
  intro j u w1 w2 h hb
  match j, h with
  | 0, h => exact h
  | 1, h => exact h
  | 2, h => exact h
  | 3, h => obtain ⟨B, d, e, ho⟩ := h; exact ⟨B, d, e, own7 ho hb⟩
  | 4, h => exact h
  | 5, h => exact h
  | 6, h => obtain ⟨B, d, e, ho⟩ := h; exact ⟨B, d, e, own7 ho hb⟩
  | 7, h => obtain ⟨o, e, h1, h2⟩ := h; exact ⟨o, e, h1, h2.on hb⟩
  | _ + 8, _ => trivial
def LR2 (w0 : World) (m' : Int) (xs : List Int) (us : Nat → Value) (w' : World) : Prop :=
  ∃ o B d, us 7 = .pointer (some ⟨o, 0, none⟩) ∧ w0.heap.size ≤ o ∧ 4 ≤ d ∧ Blk w' o 36 #[.slice B 4 d, .int .i64 m'] ∧ OI w' 3 w0.heap.size B xs ∧ Below w0.heap.size w0 w'
theorem LR2.mk {w0 wx : World} {m' : Int} {xs : List Int} {us : Nat → Value} {o : Nat} {B : Option Addr} {d : Nat} {v : Value} (hl : xs.length = 4) (e : us 7 = .pointer (some ⟨o, 0, none⟩)) (ho : w0.heap.size ≤ o) (hk : Blk wx o 36 #[.slice none 0 0, .int .i64 0]) (hw : wx.ownsRow w0.heap.size 3 1 (.slice B 4 d) 4 (xs.map (Value.int .i64))) (hB : Below w0.heap.size w0 wx) :
    LR2 w0 m' xs (upd us 8 v) ((wx.setCell ⟨o, 0, none⟩ (.slice B 4 d)).setCell ⟨o, 1, none⟩ (.int .i64 m')) := by
  refine ⟨o, B, d, by rw [upd_ne (by decide)]; exact e, ho, cap7 hw, (hk.set_ 0 _).set_ 1 _, ?_, Below.setCell (Below.setCell hB ho _) ho _⟩
  have h := (OI.of_own (xs := xs) hw).2
  rcases h with ⟨rfl, rfl⟩ | ⟨g, cur, rfl, hg, hb, hp⟩
  · simp at hl
  · have hne : g ≠ o := fun e => by
      subst e
      have h1 := hb.symm.trans hk
      injection h1 with h1
      injection h1 with _ h1
      exact absurd h1 (by decide)
    exact .inr ⟨g, cur, rfl, hg, (hb.far hne _).far hne _, hp⟩

theorem lit7 (W : World) (u : Value) (g : Nat) (hg : W.heap.size = g) : Reads (W.alloc (.cells #[u] 3)) (g + 1) 1 (some ⟨g, 0, none⟩) 1 [u] := by subst hg; exact lit_int W u
theorem specVal_at (v : Int) (q : Bool) (k y n : Int) (hq : okV v = q) (hk : kV v = k) (hy : yV v = y) (hn : nV v = n) (w : World) : Calls Try.prog 38 #[.int .i64 v] w fun e w' => e = .returned (.tuple #[.agg #[.int .i64 k, .int .i64 y, .int .i64 n], .bool q]) ∧ Below w.heap.size w w' := by
  rw [← hq, ← hk, ← hy, ← hn]; exact specValCmd_any v w
theorem l7do_at (A : Option Addr) (c : Nat) (xs : List Int) (m k n : Int) (y : Nat) (w : World) (hr : RdI w w.heap.size A xs) (hl : xs.length = 4) (hy : y < 4) (hk0 : 0 ≤ k) (hk1 : k ≤ 2) (h0 : 0 ≤ n) (h1 : n ≤ 4) (hm0 : 0 ≤ m) (hm1 : m ≤ 999) (hx : 0 ≤ xs.getD y 0 ∧ xs.getD y 0 ≤ 1000) :
    Calls Try.prog 86 #[.agg #[.slice A 4 c, .int .i64 m], .agg #[.int .i64 k, .int .i64 (y : Int), .int .i64 n]] w fun e w' => ∃ B d, e = .returned (.tuple #[.agg #[.slice B 4 d, .int .i64 (m + 1)], .int .i64 (xs.getD y 0)]) ∧ OI w' 3 w.heap.size B (doX xs k y n) ∧ Below w.heap.size w w' := by
  have h4 : (doX xs k y n).length = 4 := by rw [doX_len, hl]
  refine (l7do_any A c xs m k n y w hr hl hy hk0 hk1 h0 h1 hm0 hm1 hx).mono ?_
  rintro e w' ⟨B, d, rfl, ho, hb⟩
  exact ⟨B, d, by rw [h4], ho, hb⟩
set_option maxHeartbeats 3200000 in
theorem specRun_any (A C : Option Addr) (c e0 : Nat) (vs l : List Int) (m : Int) (w : World) (hr : RdI w w.heap.size A vs) (hq : RdI w w.heap.size C l) (hn : vs.length ≤ 1048576) (hln : l.length ≤ 1048576) :
    Calls Try.prog 47 #[.agg #[.slice A vs.length c, .int .i64 m], .slice C l.length e0] w (SR (srX vs m l) (srM vs m l) (srT vs m l) (srQ vs m l) w) := by
  have ka := (Blk.new w 36 #[.slice A vs.length c, .int .i64 m]).alloc (.cells #[.slice none 0 0, .int .i64 0] 36)
  have kr := Blk.new (w.alloc (.cells #[.slice A vs.length c, .int .i64 m] 36)) 36 #[.slice none 0 0, .int .i64 0]
  simp only [World.size_alloc] at kr
  have hB := up_ (up_ (Below.refl w.heap.size w) (.cells #[.slice A vs.length c, .int .i64 m] 36)) (.cells #[.slice none 0 0, .int .i64 0] 36)
  have hr1 := (hr.up (.cells #[.slice A vs.length c, .int .i64 m] 36)).up (.cells #[.slice none 0 0, .int .i64 0] 36)
  have hq1 := (hq.up (.cells #[.slice A vs.length c, .int .i64 m] 36)).up (.cells #[.slice none 0 0, .int .i64 0] 36)
  have HR := Lib.hid hr1
  have HQL := Lib.hid hq1
  clear hr1 hr hq1 hq
  rcases hq : stB vs m with _ | _
  · have hs0 : srQ vs m l = false := by simp [srQ, hq]
    obtain ⟨e1, e2, e3⟩ := sr_no hs0
    rw [e1, e2, e3, hs0]
    have HQ := Lib.hid hq; clear hq e1 e2 e3 hs0
    go_enter Try.func47, Try.ntmps47
    go_wp2_with fail
    with_reducible refine (specStoreOk_is false A c vs m HQ.out _ HR.out hn).mono ?_
    rintro e w1 ⟨rfl, hb⟩
    have ka1 := ka.on hb
    have kr1 := kr.on hb
    have hB1 := on_ hB hb
    have hr1 := Lib.hid (HR.out.on hb)
    have hq1 := Lib.hid (HQL.out.on hb)
    clear hb ka kr hB HR HQL
    have rr1_0 := kr1.rule
    have fr1_0 := fun i => kr1.frozen i
    have kr1_1 : Blk (w1.setCell ⟨w.heap.size + 1, 0, none⟩ (.slice none 0 0)) (w.heap.size + 1) 36 #[.slice none 0 0, .int .i64 0] := kr1.set_ 0 _
    have rr1_1 := kr1_1.rule
    have fr1_1 := fun i => kr1_1.frozen i
    have kr1_2 : Blk ((w1.setCell ⟨w.heap.size + 1, 0, none⟩ (.slice none 0 0)).setCell ⟨w.heap.size + 1, 1, none⟩ (.int .i64 0)) (w.heap.size + 1) 36 #[.slice none 0 0, .int .i64 0] := kr1_1.set_ 1 _
    have rr1_2 := kr1_2.rule
    have fr1_2 := fun i => kr1_2.frozen i
    go_wp2
    refine bodyPost_ret (v := .tuple #[.agg #[.slice none 0 0, .int .i64 0], .slice none 0 0, .bool false]) (by simp [results, Try.results47, go_sem, rr1_2]) rfl ⟨none, 0, none, 0, rfl, OI.nil_, OI.nil_, (fun g e => by cases e), ?_⟩
    iterate 2 refine Below.setCell ?_ (by simp <;> omega) _
    exact hB1
  obtain ⟨hm0, hm1⟩ : 0 ≤ m ∧ m ≤ 1000 := ⟨(stB_yes hq).2.1, (stB_yes hq).2.2.1⟩
  have HIN := Lib.hid (inR_of hq)
  by_cases hlim : 1000 - m < (l.length : Int)
  · have hs0 : srQ vs m l = false := by simp [srQ]; intro _; omega
    obtain ⟨e1, e2, e3⟩ := sr_no hs0
    rw [e1, e2, e3, hs0]
    have HQ := Lib.hid hq; clear hq e1 e2 e3 hs0
    go_enter Try.func47, Try.ntmps47
    go_wp2_with fail
    with_reducible refine (specStoreOk_is true A c vs m HQ.out _ HR.out hn).mono ?_
    rintro e w1 ⟨rfl, hb⟩
    have ka1 := ka.on hb
    have kr1 := kr.on hb
    have hB1 := on_ hB hb
    have hr1 := Lib.hid (HR.out.on hb)
    have hq1 := Lib.hid (HQL.out.on hb)
    clear hb ka kr hB HR HQL
    have ra1 := ka1.rule
    have rr1_0 := kr1.rule
    have fr1_0 := fun i => kr1.frozen i
    have kr1_1 : Blk (w1.setCell ⟨w.heap.size + 1, 0, none⟩ (.slice none 0 0)) (w.heap.size + 1) 36 #[.slice none 0 0, .int .i64 0] := kr1.set_ 0 _
    have rr1_1 := kr1_1.rule
    have fr1_1 := fun i => kr1_1.frozen i
    have kr1_2 : Blk ((w1.setCell ⟨w.heap.size + 1, 0, none⟩ (.slice none 0 0)).setCell ⟨w.heap.size + 1, 1, none⟩ (.int .i64 0)) (w.heap.size + 1) 36 #[.slice none 0 0, .int .i64 0] := kr1_1.set_ 1 _
    have rr1_2 := kr1_2.rule
    have fr1_2 := fun i => kr1_2.frozen i
    go_wp2
    refine bodyPost_ret (v := .tuple #[.agg #[.slice none 0 0, .int .i64 0], .slice none 0 0, .bool false]) (by simp [results, Try.results47, go_sem, rr1_2]) rfl ⟨none, 0, none, 0, rfl, OI.nil_, OI.nil_, (fun g e => by cases e), ?_⟩
    iterate 2 refine Below.setCell ?_ (by simp <;> omega) _
    exact hB1
  have hs0 : srQ vs m l = true := by simp [srQ, hq]; omega
  obtain ⟨e1, e2, e3⟩ := sr_yes hs0
  rw [e1, e2, e3, hs0]
  have hlm : (l.length : Int) ≤ 1000 - m := by omega
  have HQ := Lib.hid hq; clear hq e1 e2 e3 hs0 hlim
  have HFX : Hid (runX vs (l.take l.length) = runX vs l) := by show _ = _; rw [List.take_length]
  have HFM : Hid (runM m (l.take l.length) = runM m l) := by show _ = _; rw [List.take_length]
  have HFT : Hid (runT vs (l.take l.length) = runT vs l) := by show _ = _; rw [List.take_length]
  have HLEN : Hid ((runX vs l).length = 4) := (runX_in HIN.out).1
  obtain ⟨i0, hi0, hz0, hz1, hz2⟩ := info_parts infoI7
  obtain ⟨n, hvn⟩ : ∃ n, l.length = n := ⟨_, rfl⟩
  rw [hvn] at hlm hln HFX HFM HFT ⊢
  have HV := Lib.hid hvn; clear hvn
  go_enter Try.func47, Try.ntmps47
  go_wp2_with fail
  with_reducible refine (specStoreOk_is true A c vs m HQ.out _ HR.out hn).mono ?_
  rintro e w1 ⟨rfl, hb⟩
  have ka1 := ka.on hb
  have kr1 := kr.on hb
  have hB1 := on_ hB hb
  have hr1 := Lib.hid (HR.out.on hb)
  have hq1 := Lib.hid (HQL.out.on hb)
  clear hb ka kr hB HR HQL
  have ra1 := ka1.rule
  obtain ⟨b, off, rfl, hb0, hc⟩ := hr1.out (by rw [HIN.out.1]; omega)
  have H4 := Lib.hid HIN.out.1
  go_wp2
  clear ra1 hc
  rw [H4.out] at ka1
  have KP := Lib.hid ka1
  have HRD : Hid (∀ wx, Below w1.heap.size w1 wx → ∀ j u, (vs.map (Value.int .i64))[j]? = some u → wx.cell? ((⟨b, off, none⟩ : Addr).add j) = some u) := fun wx hwx j u hu => by
    obtain ⟨ad, e, _, h⟩ := hr1.out.reads.2 (by rw [H4.out]; omega)
    injection e with e
    subst e
    rw [hwx.cell (by rw [block_of_add]; exact hb0)]
    exact h j u hu
  refine wp_region_fin ?_ ?_ (LV2 w1 w.heap.size (some ⟨b, off, none⟩) c m (m) vs) (LR2 w1 (m) vs) 8 (by kernel_rfl) (by kernel_rfl) (by kernel_rfl) (by kernel_rfl) (by kernel_rfl) LV2.keep ?_ ?_
  rotate_left
  · intro us; simp only [putL]; go_simp; exact rfl
  · refine Each.cons ?_ (Each.cons ?_ (Each.cons ?_ (Each.cons ?_ (Each.cons ?_ (Each.cons ?_ (Each.cons ?_ (Each.cons ?_ (Each.cons ?_ (Each.nil)))))))))
    · refine ⟨fun _ => ?_, fun h => absurd h (by decide)⟩
      intro us wx hW hD Q K hK
      go_simp
      exact hK _ _ (.slice (some ⟨wx.heap.size, 0, none⟩) 0 0) (by go_simp) ((Below.refl _ _).alloc (Nat.le_refl _) _) ⟨_, rfl⟩
    · refine ⟨fun _ => ?_, fun h => absurd h (by decide)⟩
      intro us wx hW hD Q K hK
      go_simp
      exact hK _ _ (.pointer (some ⟨w.heap.size, 0, none⟩)) (by go_simp) (Below.refl _ _) rfl
    · refine ⟨fun _ => ?_, fun h => absurd h (by decide)⟩
      intro us wx hW hD Q K hK
      have e1 : us 1 = _ := hD 1 (by decide)
      have rp := (KP.out.below hW KP.out.lt).rule
      go_simp
      exact hK _ _ (.slice (some ⟨b, off, none⟩) 4 c) (by go_simp) (Below.refl _ _) rfl
    · refine ⟨fun _ => ?_, fun h => absurd h (by decide)⟩
      intro us wx hW hD Q K hK
      obtain ⟨b0, e0⟩ := hD 0 (by decide)
      have e2 : us 2 = _ := hD 2 (by decide)
      have hrd := HRD.out wx hW
      refine step_append_grows rfl (.tmp 26) (.tmp 28) 34 rfl 3 i0 (.int .i64 0) 1 8 Try.underlying34 hi0 hz0 hz1 hz2 rfl (by omega) (some ⟨b0, 0, none⟩) 0 0 [] (by show us 0 = _; exact e0) (fun h => by cases h) rfl (fun _ _ j u h => by simp at h) ⟨b, off, none⟩ 4 c (vs.map (Value.int .i64)) (by show us 2 = _; exact e2) (by simp [H4.out]) hrd (one7 vs) (by omega) (by unfold maxLen; omega) (by omega) ?_
      intro v' w' hown hgr
      obtain ⟨B, d, rfl⟩ := form7 hown
      simp only [Nat.zero_add, List.nil_append] at hown ⊢
      exact hK _ _ (.slice B 4 d) rfl ⟨hgr.os, hgr.tape, hgr.output, hgr.size, fun i hi => hgr.block i hi (by simp)⟩ ⟨B, d, rfl, own_more3 hown hW.size⟩
    · refine ⟨fun _ => ?_, fun h => absurd h (by decide)⟩
      intro us wx hW hD Q K hK
      go_simp
      exact hK _ _ (.pointer (some ⟨w.heap.size, 1, none⟩)) (by go_simp) (Below.refl _ _) rfl
    · refine ⟨fun _ => ?_, fun h => absurd h (by decide)⟩
      intro us wx hW hD Q K hK
      have e4 : us 4 = _ := hD 4 (by decide)
      have rp := (KP.out.below hW KP.out.lt).rule
      go_simp
      exact hK _ _ (.int .i64 m) (by go_simp) (Below.refl _ _) rfl
    · refine ⟨fun _ => ?_, fun h => absurd h (by decide)⟩
      intro us wx hW hD Q K hK
      obtain ⟨B, d, e3, ho⟩ := hD 3 (by decide)
      have e5 : us 5 = _ := hD 5 (by decide)
      go_simp
      exact hK _ _ (.agg #[.slice B 4 d, .int .i64 (m)]) (by go_simp) (Below.refl _ _) ⟨B, d, rfl, ho⟩
    · refine ⟨fun _ => ?_, fun h => absurd h (by decide)⟩
      intro us wx hW hD Q K hK
      go_simp
      exact hK _ _ (.pointer (some ⟨wx.heap.size, 0, none⟩)) (by go_simp) ((Below.refl _ _).alloc (Nat.le_refl _) _) ⟨_, rfl, hW.size, Blk.new _ _ _⟩
    · refine ⟨fun h => absurd rfl h, fun _ => ?_⟩
      intro us wx hW hD Q K hK
      obtain ⟨B, d, e6, ho⟩ := hD 6 (by decide)
      obtain ⟨o, e7, hlo, hko⟩ := hD 7 (by decide)
      have ro := hko.rule
      have fo := fun i => hko.frozen i
      have ro1 : ∀ i, (wx.setCell ⟨o, 0, none⟩ (.slice B 4 d)).cell? ⟨o, i, none⟩ = _ := (hko.set_ 0 (.slice B 4 d)).rule
      have fo1 := fun i => (hko.set_ 0 (.slice B 4 d)).frozen i
      go_simp
      exact hK _ _ undef (by go_simp) (LR2.mk H4.out e7 hlo hko ho hW)
  intro us' w3 hR
  obtain ⟨o, B0, d0, e8, hlo, hd0, ko, ho, hb3⟩ := hR
  simp only [e8]
  clear e8
  generalize us' 0 = z0; generalize us' 1 = z1; generalize us' 2 = z2; generalize us' 3 = z3; generalize us' 4 = z4; generalize us' 5 = z5; generalize us' 6 = z6
  clear us'
  clear KP HRD ka1 hr1
  have HS : Hid (SRel w1.heap.size w3 o (.slice none 0 0) B0 d0 vs m []) := ⟨ko, ho, World.ownsRow_nil _ _ _ _, fun g _ => by simp [Value.ownBlock]⟩
  have hr1z := kr1.lt
  clear ko ho
  go_wp2
  go_loopw [8, 9] (fun tv i wr => ∃ (j : Nat) (B : Option Addr) (d : Nat) (xs ts : List Int) (mm : Int), j ≤ n ∧ i = .int .i64 j ∧ Hid (runX vs (l.take j) = xs) ∧ Hid (runM m (l.take j) = mm) ∧ Hid (runT vs (l.take j) = ts) ∧ Hid (SRel w1.heap.size wr o tv B d xs mm ts) ∧ Below w1.heap.size w1 wr) (fun _ i _ => n - (intOf i).toNat)
  case atStart => exact ⟨0, B0, d0, vs, [], m, Nat.zero_le _, rfl, rfl, rfl, rfl, HS, hb3⟩
  case round =>
    clear HS hb3
    obtain ⟨j, B, d, xs, ts, mm, hj, rfl, hX, hM, hT, hs, hbel⟩ := hrel
    have htl : ts.length ≤ 1000 := by rw [← hT.out, runT_len, List.length_take]; have := HV.out; omega
    have hmb : 0 ≤ mm ∧ mm ≤ m + j := by have h := runM_le m (l.take j); rw [hM.out, List.length_take] at h; have := HV.out; omega
    have hin : Hid (inR xs) := by rw [← hX.out]; exact runX_in HIN.out
    obtain ⟨hmb0, hmb1⟩ := hmb
    have hwz := hbel.size
    by_cases hlj : j < n
    · obtain ⟨b2, off2, rfl, hb2, hcl⟩ := RdI.at_ (hq1.out.below hbel) (k := j) (by rw [HV.out]; omega)
      have hsx := runX_step vs l j (by rw [HV.out]; omega)
      have hsm := runM_step m l j (by rw [HV.out]; omega)
      have hst := runT_step vs l j (by rw [HV.out]; omega)
      rw [hX.out] at hsx hst
      rw [hM.out] at hsm
      rw [hT.out] at hst
      obtain ⟨v, hv⟩ : ∃ v, l.getD j 0 = v := ⟨_, rfl⟩
      rw [hv] at hcl hsx hsm hst
      clear hv
      rcases hok : okV v with _ | _
      · have HX' : Hid (runX vs (l.take (j + 1)) = xs) := by show _ = _; rw [hsx]; simp [rStep, hok]
        have HM' : Hid (runM m (l.take (j + 1)) = mm) := by show _ = _; rw [hsm]; simp [rM, hok]
        have HT' : Hid (runT vs (l.take (j + 1)) = ts ++ [-1]) := by show _ = _; rw [hst]; simp [rT, hok]
        have HOK := Lib.hid hok
        clear hsx hsm hst hok hX hM hT
        go_wp2_with fail
        with_reducible refine (specVal_at v false _ _ _ HOK.out rfl rfl rfl _).mono ?_
        rintro e w4 ⟨rfl, hb4⟩
        have hs4 := Lib.hid (((hs.out.on hb4).up (.cells #[.int .i64 (kV v), .int .i64 (yV v), .int .i64 (nV v)] 24)).up (.cells #[.int .i64 (-1)] 3))
        have hb44 := ((hbel.trans (hb4.mono hwz)).alloc (by have := hb4.size; omega) (.cells #[.int .i64 (kV v), .int .i64 (yV v), .int .i64 (nV v)] 24)).alloc (by have := hb4.size; simp; omega) (.cells #[.int .i64 (-1)] 3)
        have hz4 := hb4.size
        have HLIT := Lib.hid (lit7 (w4.alloc (.cells #[.int .i64 (kV v), .int .i64 (yV v), .int .i64 (nV v)] 24)) (.int .i64 (-1)) (w4.heap.size + 1) (by simp))
        clear hs hbel hb4
        go_wp2_with (at_builtin; refine wpList_append_any _ rfl (.tmp 49) (.tmp 50) 34 rfl w1.heap.size 3 i0 _ 1 8 Try.underlying34 hi0 hz0 hz1 hz2 rfl (by omega) u8 ts.length (ic ts) rfl hs4.out.2.2.1 _ _ 1 1 [.int .i64 (-1)] rfl HLIT.out (by simp [Value.oneCell']) (by simp only [maxLen]; omega) (by omega) (by simp; omega) ?_; intro v2 w9 hown2 hgr2 hat2)
        go_roundw
        case rel => exact ⟨j + 1, B, d, xs, ts ++ [-1], mm, by omega, by go_num, HX', HM', HT', hs4.out.app hown2 hgr2 hat2, hb44.grown hgr2 (by simp; omega) (fun g hg => (hs4.out.2.2.1.lt g hg).1)⟩
        case measure => simp [intOf]; omega
      · obtain ⟨q1, q2, q3, q4, q5, q6⟩ := okV_yes hok
        obtain ⟨k, hk⟩ : ∃ k, kV v = k := ⟨_, rfl⟩
        obtain ⟨nn, hnn⟩ : ∃ k, nV v = k := ⟨_, rfl⟩
        obtain ⟨y, hy⟩ : ∃ y : Nat, yV v = y := ⟨(yV v).toNat, by omega⟩
        have HX' : Hid (runX vs (l.take (j + 1)) = doX xs k y nn) := by show _ = _; rw [hsx]; simp [rStep, hok, hk, hy, hnn]
        have HM' : Hid (runM m (l.take (j + 1)) = mm + 1) := by show _ = _; rw [hsm]; simp [rM, hok]
        have HT' : Hid (runT vs (l.take (j + 1)) = ts ++ [xs.getD y 0]) := by show _ = _; rw [hst]; simp [rT, hok, hy]
        have HOK := Lib.hid hok; have HK := Lib.hid hk; have HY := Lib.hid hy; have HN := Lib.hid hnn
        rw [hk] at q1 q2
        rw [hy] at q3 q4
        rw [hnn] at q5 q6
        clear hsx hsm hst hok hX hM hT hk hy hnn
        go_wp2_with fail
        with_reducible refine (specVal_at v true k y nn HOK.out HK.out HY.out HN.out _).mono ?_
        rintro e w4 ⟨rfl, hb4⟩
        have hs5 := Lib.hid ((hs.out.on hb4).up (.cells #[.int .i64 k, .int .i64 (y : Int), .int .i64 nn] 24))
        have k5 := Blk.new w4 24 #[.int .i64 k, .int .i64 (y : Int), .int .i64 nn]
        have hb5 := (hbel.trans (hb4.mono hwz)).alloc (by have := hb4.size; omega) (.cells #[.int .i64 k, .int .i64 (y : Int), .int .i64 nn] 24)
        have hz5 : w1.heap.size ≤ w4.heap.size + 1 := by have := hb4.size; omega
        have hz5b : (w4.alloc (.cells #[.int .i64 k, .int .i64 (y : Int), .int .i64 nn] 24)).heap.size = w4.heap.size + 1 := World.size_alloc _ _
        have HZ5 := Lib.hid hz5b
        have ro5 := hs5.out.1.rule
        clear hs hbel hb4 hz5b
        go_wp2_with fail
        generalize w4.alloc (.cells #[.int .i64 k, .int .i64 (y : Int), .int .i64 nn] 24) = w5 at *
        clear ro5
        have hxy := hin.out.2 y (by omega)
        have HXY := Lib.hid hxy; clear hxy
        have hrd5 := Lib.hid hs5.out.2.1.rd
        have hl5 := Lib.hid hin.out.1
        with_reducible refine (l7do_at B d xs mm k nn y w5 hrd5.out hl5.out (by omega) q1 q2 q5 q6 hmb0 (by omega) HXY.out).mono ?_
        rintro e w6 ⟨B2, d2, rfl, ho2, hb6⟩
        have hs7 := Lib.hid ((hs5.out.on hb6).up (.cells #[.slice B2 4 d2, .int .i64 (mm + 1)] 36))
        have ho7 := Lib.hid (OI.more (ho2.up (.cells #[.slice B2 4 d2, .int .i64 (mm + 1)] 36)) (by rw [HZ5.out]; exact hz5))
        have hd7 := Lib.hid (own_fresh hs5.out.2.2.1 ho2)
        have hz6 := hb6.size
        have hb7 := (hb5.trans (hb6.mono (by rw [HZ5.out]; exact hz5))).alloc (by have := HZ5.out; omega) (.cells #[.slice B2 4 d2, .int .i64 (mm + 1)] 36)
        have hzz : w1.heap.size ≤ w6.heap.size := by have := HZ5.out; omega
        have ro7 := hs7.out.1.rule
        have fo7 := fun i => hs7.out.1.frozen i
        have k8 := hs7.out.1.set_ 0 (.slice B2 4 d2)
        have ro8 : ∀ i, ((w6.alloc (.cells #[.slice B2 4 d2, .int .i64 (mm + 1)] 36)).setCell ⟨o, 0, none⟩ (.slice B2 4 d2)).cell? ⟨o, i, none⟩ = (#[.slice B2 4 d2, .int .i64 mm] : Array Value)[i]? := k8.rule
        have fo8 := fun i => k8.frozen i
        have hs8 := Lib.hid ((hs7.out.put (m2 := mm + 1) (d2 := d2) ho7.out hd7.out).up (.cells #[.int .i64 (xs.getD y 0)] 3))
        have hb8 := ((hb7.setCell (p := ⟨o, 0, none⟩) hlo (.slice B2 4 d2)).setCell (p := ⟨o, 1, none⟩) hlo (.int .i64 (mm + 1))).alloc (by simp [World.setCell]; omega) (.cells #[.int .i64 (xs.getD y 0)] 3)
        have HB8 := Lib.hid hb8
        have HLIT := Lib.hid (lit7 (((w6.alloc (.cells #[.slice B2 4 d2, .int .i64 (mm + 1)] 36)).setCell ⟨o, 0, none⟩ (.slice B2 4 d2)).setCell ⟨o, 1, none⟩ (.int .i64 (mm + 1))) (.int .i64 (xs.getD y 0)) (w6.heap.size + 1) (by simp [World.setCell]))
        clear hs5 hb5 hb6 hb7 ho2 k8 k5 hb8 hrd5 hl5
        go_wp2_with (at_builtin; refine wpList_append_any _ rfl (.tmp 59) (.tmp 61) 34 rfl w1.heap.size 3 i0 _ 1 8 Try.underlying34 hi0 hz0 hz1 hz2 rfl (by omega) u8 ts.length (ic ts) rfl hs8.out.2.2.1 _ _ 1 1 [.int .i64 (xs.getD y 0)] rfl HLIT.out (by simp [Value.oneCell']) (by simp only [maxLen]; omega) (by omega) (by simp; omega) ?_; intro v2 w9 hown2 hgr2 hat2)
        go_roundw
        case rel => exact ⟨j + 1, B2, d2, doX xs k y nn, ts ++ [xs.getD y 0], mm + 1, by omega, by go_num, HX', HM', HT', hs8.out.app hown2 hgr2 hat2, HB8.out.grown hgr2 (by simp [World.setCell]; omega) (fun g hg => (hs8.out.2.2.1.lt g hg).1)⟩
        case measure => simp [intOf]; omega
    · obtain rfl : j = n := by omega
      have kr9 := kr1.below hbel (by omega)
      have ko9 := hs.out.1
      have hoz := ko9.lt
      have hX2 := hX.out.symm.trans HFX.out
      have hM2 := hM.out.symm.trans HFM.out
      have hT2 := hT.out.symm.trans HFT.out
      obtain ⟨Bt, ct, rfl, hot⟩ := ic_of_own hs.out.2.2.1
      have h4 : xs.length = 4 := hin.out.1
      have H4 := Lib.hid h4; have HX2 := Lib.hid hX2; have HM2 := Lib.hid hM2; have HT2 := Lib.hid hT2
      clear h4 hX2 hM2 hT2
      have hB9 := hB1.trans (hbel.mono (by omega))
      have rr9_0 := kr9.rule
      have fr9_0 := fun i => kr9.frozen i
      have ro9_0 := ko9.rule
      have fo9_0 := fun i => ko9.frozen i
      have kr9_1 : Blk (wr.setCell ⟨w.heap.size + 1, 0, none⟩ (.slice B 4 d)) (w.heap.size + 1) 36 #[.slice B 4 d, .int .i64 0] := kr9.set_ 0 _
      have ko9_1 := ko9.far (p := ⟨w.heap.size + 1, 0, none⟩) (by show o ≠ w.heap.size + 1; omega) (.slice B 4 d)
      have rr9_1 := kr9_1.rule
      have fr9_1 := fun i => kr9_1.frozen i
      have ro9_1 := ko9_1.rule
      have fo9_1 := fun i => ko9_1.frozen i
      have kr9_2 : Blk ((wr.setCell ⟨w.heap.size + 1, 0, none⟩ (.slice B 4 d)).setCell ⟨w.heap.size + 1, 1, none⟩ (.int .i64 mm)) (w.heap.size + 1) 36 #[.slice B 4 d, .int .i64 mm] := kr9_1.set_ 1 _
      have ko9_2 := ko9_1.far (p := ⟨w.heap.size + 1, 1, none⟩) (by show o ≠ w.heap.size + 1; omega) (.int .i64 mm)
      have rr9_2 := kr9_2.rule
      have fr9_2 := fun i => kr9_2.frozen i
      have ro9_2 := ko9_2.rule
      have fo9_2 := fun i => ko9_2.frozen i
      go_wp2
      refine bodyPost_ret (v := .tuple #[.agg #[.slice B 4 d, .int .i64 mm], .slice Bt ts.length ct, .bool true]) (by simp [results, Try.results47, go_sem, rr9_2]) rfl ?_
      rw [← HX2.out, ← HM2.out, ← HT2.out]
      refine ⟨B, d, Bt, ct, by rw [H4.out], ?_, ?_, ?_, ?_⟩
      · exact OI.more (OI.set_ (OI.set_ hs.out.2.1 (by show w.heap.size + 1 < w1.heap.size; omega) _) (by show w.heap.size + 1 < w1.heap.size; omega) _) (by omega)
      · exact OI.more (OI.set_ (OI.set_ hot (by show w.heap.size + 1 < w1.heap.size; omega) _) (by show w.heap.size + 1 < w1.heap.size; omega) _) (by omega)
      · intro g e1 e2
        exact hs.out.2.2.2 g e1 (own_block rfl e2)
      · iterate 2 refine Below.setCell ?_ (by simp <;> omega) _
        exact hB9
end Go.Proofs.Ytfebeafonifpdaa.V
