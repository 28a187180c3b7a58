/-
  l7do of the model, with the room of its row: contract. No statement is proved here.
-/
import Derived.Test.YtbogagddjkghhaaDoorStRs
set_option linter.unusedVariables false
set_option maxRecDepth 100000
namespace Go.Proofs.YtbogagddjkghhaaDoor.V
open Go.RowKit Go.Proofs.YtbogagddjkghhaaDoor.B
def SGc (us : List Int) (m : Int) (r : Value) (w : World) (e : Ending) (w' : World) : Prop :=
  ∃ A d, e = .returned (.tuple #[.agg #[.slice A us.length d, .int .i64 m], r]) ∧ us.length ≤ d ∧ OI w' 3 w.heap.size A us ∧ Below w.heap.size w w'
set_option maxHeartbeats 3200000 in
theorem l7doc_any (A : Option Addr) (c : Nat) (xs : List Int) (m k n : Int) (y : Nat) (w : World) (hr : RdI w w.heap.size A xs) (hl : xs.length = 4) (hy : y < 4) (hk0 : 0 ≤ k) (hk1 : k ≤ 2) (h0 : 0 ≤ n) (h1 : n ≤ 4) (hm0 : 0 ≤ m) (hm1 : m ≤ 999) (hx : 0 ≤ xs.getD y 0 ∧ xs.getD y 0 ≤ 1000) :
    Calls Tryd.prog 100 #[.agg #[.slice A 4 c, .int .i64 m], .agg #[.int .i64 k, .int .i64 (y : Int), .int .i64 n]] w (SGc (doX xs k y n) (m + 1) (.int .i64 (xs.getD y 0)) w) := by
  obtain ⟨i0, hi0, hz0, hz1, hz2⟩ := info_parts infoI7
  obtain ⟨b, off, rfl, hb, hc⟩ := hr (by omega)
  have hcy := hc y (by omega)
  obtain ⟨x, hxe⟩ : ∃ x, xs.getD y 0 = x := ⟨_, rfl⟩
  rw [hxe] at hcy hx ⊢
  obtain ⟨hx0, hx1⟩ := hx
  have hrd := hr.reads
  have hrd2 : ∀ j u, (xs.map (Value.int .i64))[j]? = some u → w.cell? ((⟨b, off, none⟩ : Addr).add j) = some u := by
    obtain ⟨ad, e, _, h⟩ := hrd.2 (by omega)
    injection e with e
    subst e
    exact h
  have hdl := doX_len xs k y n
  have hdx : doX xs k y n = xs.set y (doN k n x) := by unfold doX; rw [hxe]
  have HX := Lib.hid hxe; have HL := Lib.hid hl; have HDX := Lib.hid hdx
  rw [hl] at hdl
  have HDL := Lib.hid hdl
  generalize doX xs k y n = us at *
  clear hrd hc hr hxe hdl hdx hl
  have g0 : (0 : Int) ≤ (y : Int) := by omega
  have g1 : (y : Int) < 4 := by omega
  have ka := ((Blk.new w 46 #[.slice (some ⟨b, off, none⟩) 4 c, .int .i64 m]).alloc (.cells #[.int .i64 k, .int .i64 (y : Int), .int .i64 n] 48)).alloc (.cells #[.slice none 0 0, .int .i64 0] 46)
  have kc := (Blk.new (w.alloc (.cells #[.slice (some ⟨b, off, none⟩) 4 c, .int .i64 m] 46)) 48 #[.int .i64 k, .int .i64 (y : Int), .int .i64 n]).alloc (.cells #[.slice none 0 0, .int .i64 0] 46)
  have kz := Blk.new ((w.alloc (.cells #[.slice (some ⟨b, off, none⟩) 4 c, .int .i64 m] 46)).alloc (.cells #[.int .i64 k, .int .i64 (y : Int), .int .i64 n] 48)) 46 #[.slice none 0 0, .int .i64 0]
  simp only [World.size_alloc] at kc kz
  have hB := up_ (up_ (up_ (Below.refl w.heap.size w) (.cells #[.slice (some ⟨b, off, none⟩) 4 c, .int .i64 m] 46)) (.cells #[.int .i64 k, .int .i64 (y : Int), .int .i64 n] 48)) (.cells #[.slice none 0 0, .int .i64 0] 46)
  have hz1' : w.heap.size + 2 < (((w.alloc (.cells #[.slice (some ⟨b, off, none⟩) 4 c, .int .i64 m] 46)).alloc (.cells #[.int .i64 k, .int .i64 (y : Int), .int .i64 n] 48)).alloc (.cells #[.slice none 0 0, .int .i64 0] 46)).heap.size := by simp
  go_enter Tryd.func100, Tryd.ntmps100
  go_wp2
  generalize ((w.alloc (.cells #[.slice (some ⟨b, off, none⟩) 4 c, .int .i64 m] 46)).alloc (.cells #[.int .i64 k, .int .i64 (y : Int), .int .i64 n] 48)).alloc (.cells #[.slice none 0 0, .int .i64 0] 46) = w1 at *
  have KP := Lib.hid ka
  have HRD : Hid (Below w.heap.size w w1 ∧ True) := ⟨hB, trivial⟩
  have HRD : Hid (∀ wx, Below w1.heap.size w1 wx → ∀ j u, (xs.map (Value.int .i64))[j]? = some u → wx.cell? ((⟨b, off, none⟩ : Addr).add j) = some u) := fun wx hwx j u hu => by
    have hcell := hrd2 j u hu
    have hblk : ((⟨b, off, none⟩ : Addr).add j).block = b := block_of_add _ _
    have hbw : b < w1.heap.size := by have := hB.size; omega
    rw [hwx.cell (by rw [hblk]; exact hbw), hB.cell (by rw [hblk]; exact hb)]
    exact hcell
  have hcy1 : w1.cell? ⟨b, off + y, none⟩ = some (.int .i64 x) := (hB.cell (p := ⟨b, off + y, none⟩) hb).trans hcy
  have HB := Lib.hid hB
  clear hrd2 hcy hB
  refine wp_region_fin ?_ ?_ (LV w1 w.heap.size (some ⟨b, off, none⟩) c m (m + 1) xs) (LR w1 (m + 1) xs) 9 (by kernel_rfl) (by kernel_rfl) (by kernel_rfl) (by kernel_rfl) (by kernel_rfl) LV.keep ?_ ?_
  rotate_left
  · intro us; simp only [putL]; go_simp; exact rfl
  · refine Each.cons ?_ (Each.cons ?_ (Each.cons ?_ (Each.cons ?_ (Each.cons ?_ (Each.cons ?_ (Each.cons ?_ (Each.cons ?_ (Each.cons ?_ (Each.cons ?_ (Each.nil))))))))))
    · refine ⟨fun _ => ?_, fun h => absurd h (by decide)⟩
      intro us wx hW hD Q K hK
      go_simp
      exact hK _ _ (.slice (some ⟨wx.heap.size, 0, none⟩) 0 0) (by go_simp) ((Below.refl _ _).alloc (Nat.le_refl _) _) ⟨_, rfl⟩
    · refine ⟨fun _ => ?_, fun h => absurd h (by decide)⟩
      intro us wx hW hD Q K hK
      go_simp
      exact hK _ _ (.pointer (some ⟨w.heap.size, 0, none⟩)) (by go_simp) (Below.refl _ _) rfl
    · refine ⟨fun _ => ?_, fun h => absurd h (by decide)⟩
      intro us wx hW hD Q K hK
      have e1 : us 1 = _ := hD 1 (by decide)
      have rp := (KP.out.below hW KP.out.lt).rule
      go_simp
      exact hK _ _ (.slice (some ⟨b, off, none⟩) 4 c) (by go_simp) (Below.refl _ _) rfl
    · refine ⟨fun _ => ?_, fun h => absurd h (by decide)⟩
      intro us wx hW hD Q K hK
      obtain ⟨b0, e0⟩ := hD 0 (by decide)
      have e2 : us 2 = _ := hD 2 (by decide)
      have hrd := HRD.out wx hW
      refine step_append_grows rfl (.tmp 8) (.tmp 10) 44 rfl 3 i0 (.int .i64 0) 1 8 Tryd.underlying44 hi0 hz0 hz1 hz2 rfl (by omega) (some ⟨b0, 0, none⟩) 0 0 [] (by show us 0 = _; exact e0) (fun h => by cases h) rfl (fun _ _ j u h => by simp at h) ⟨b, off, none⟩ 4 c (xs.map (Value.int .i64)) (by show us 2 = _; exact e2) (by simp [HL.out]) hrd (one7 xs) (by omega) (by unfold maxLen; omega) (by omega) ?_
      intro v' w' hown hgr
      obtain ⟨B, d, rfl⟩ := form7 hown
      simp only [Nat.zero_add, List.nil_append] at hown ⊢
      exact hK _ _ (.slice B 4 d) rfl ⟨hgr.os, hgr.tape, hgr.output, hgr.size, fun i hi => hgr.block i hi (by simp)⟩ ⟨B, d, rfl, own_more3 hown hW.size⟩
    · refine ⟨fun _ => ?_, fun h => absurd h (by decide)⟩
      intro us wx hW hD Q K hK
      go_simp
      exact hK _ _ (.pointer (some ⟨w.heap.size, 1, none⟩)) (by go_simp) (Below.refl _ _) rfl
    · refine ⟨fun _ => ?_, fun h => absurd h (by decide)⟩
      intro us wx hW hD Q K hK
      have e4 : us 4 = _ := hD 4 (by decide)
      have rp := (KP.out.below hW KP.out.lt).rule
      go_simp
      exact hK _ _ (.int .i64 m) (by go_simp) (Below.refl _ _) rfl
    · refine ⟨fun _ => ?_, fun h => absurd h (by decide)⟩
      intro us wx hW hD Q K hK
      have e5 : us 5 = _ := hD 5 (by decide)
      have hw6 : IntKind.i64.wrap (m + 1) = m + 1 := IntWalk.i64_in _ (by omega)
      go_simp
      exact hK _ _ (.int .i64 (m + 1)) (by go_simp) (Below.refl _ _) rfl
    · refine ⟨fun _ => ?_, fun h => absurd h (by decide)⟩
      intro us wx hW hD Q K hK
      obtain ⟨B, d, e3, ho⟩ := hD 3 (by decide)
      have e6 : us 6 = _ := hD 6 (by decide)
      go_simp
      exact hK _ _ (.agg #[.slice B 4 d, .int .i64 (m + 1)]) (by go_simp) (Below.refl _ _) ⟨B, d, rfl, ho⟩
    · refine ⟨fun _ => ?_, fun h => absurd h (by decide)⟩
      intro us wx hW hD Q K hK
      go_simp
      exact hK _ _ (.pointer (some ⟨wx.heap.size, 0, none⟩)) (by go_simp) ((Below.refl _ _).alloc (Nat.le_refl _) _) ⟨_, rfl, hW.size, Blk.new _ _ _⟩
    · refine ⟨fun h => absurd rfl h, fun _ => ?_⟩
      intro us wx hW hD Q K hK
      obtain ⟨B, d, e7, ho⟩ := hD 7 (by decide)
      obtain ⟨o, e8, hlo, hko⟩ := hD 8 (by decide)
      have ro := hko.rule
      have fo := fun i => hko.frozen i
      have ro1 : ∀ i, (wx.setCell ⟨o, 0, none⟩ (.slice B 4 d)).cell? ⟨o, i, none⟩ = _ := (hko.set_ 0 (.slice B 4 d)).rule
      have fo1 := fun i => (hko.set_ 0 (.slice B 4 d)).frozen i
      go_simp
      exact hK _ _ undef (by go_simp) (LR.mk HL.out e8 hlo hko ho hW)
  intro us' w3 hR
  obtain ⟨o, B, d, e8, hlo, hd, ko, ho, hb3⟩ := hR
  simp only [e8]
  clear e8
  generalize us' 0 = z0; generalize us' 1 = z1; generalize us' 2 = z2; generalize us' 3 = z3; generalize us' 4 = z4; generalize us' 5 = z5; generalize us' 6 = z6; generalize us' 7 = z7
  clear us'
  have ka3 := KP.out.on hb3
  have kc3 := kc.on hb3
  have kz3 := kz.on hb3
  have hB3 := HB.out.trans (hb3.mono HB.out.size)
  have hcy3 : w3.cell? ⟨b, off + y, none⟩ = some (.int .i64 x) := (hb3.cell (p := ⟨b, off + y, none⟩) (World.block_lt_of_cell? _ _ hcy1)).trans hcy1
  have hw1 := HB.out.size
  clear KP HRD HB ka kc kz hcy1 hb3
  obtain ⟨g, cs, rfl, hgb, hk, hpi⟩ := ho.row7 (by rw [HL.out]; omega)
  have hcg := hpi.2 y (by rw [HL.out]; omega)
  rw [HX.out] at hcg
  have hgo : g ≠ o := fun e => by
    subst e
    have h1 := hk.symm.trans ko
    injection h1 with h1
    injection h1 with _ h1
    exact absurd h1 (by decide)
  have ro := ko.rule
  have ra := ka3.rule
  have rc := kc3.rule
  have rz := kz3.rule
  have fz := fun i => kz3.frozen i
  have rg := (hk.cell y).trans hcg
  have fg := hk.frozen y
  have HPI := Lib.hid hpi
  have ho := Lib.hid ho
  clear hpi hcg
  rcases (show k = 0 ∨ k = 1 ∨ k = 2 by omega) with rfl | rfl | rfl
  · have ko4 := ko
    have kz4 := kz3
    have ho4 := ho
    have kz5 : Blk (w3.setCell ⟨w.heap.size + 1 + 1, 0, none⟩ (.slice (some ⟨g, 0, none⟩) 4 d)) (w.heap.size + 1 + 1) 46 #[.slice (some ⟨g, 0, none⟩) 4 d, .int .i64 0] := kz4.set_ 0 _
    have kz6 : Blk ((w3.setCell ⟨w.heap.size + 1 + 1, 0, none⟩ (.slice (some ⟨g, 0, none⟩) 4 d)).setCell ⟨w.heap.size + 1 + 1, 1, none⟩ (.int .i64 (m + 1))) (w.heap.size + 1 + 1) 46 #[.slice (some ⟨g, 0, none⟩) 4 d, .int .i64 (m + 1)] := kz5.set_ 1 _
    have rz5 := kz5.rule
    have fz5 := fun i => kz5.frozen i
    have rz6 := kz6.rule
    go_wp2
    refine bodyPost_ret (v := .tuple #[.agg #[.slice (some ⟨g, 0, none⟩) 4 d, .int .i64 (m + 1)], .int .i64 x]) (by simp [results, Tryd.results100, go_sem, rz6]) rfl ⟨some ⟨g, 0, none⟩, d, by rw [HDL.out], by rw [HDL.out]; exact hd, ?_, ?_⟩
    · have e : us = xs := by rw [HDX.out]; unfold doN; rw [if_neg (by decide), if_neg (by decide), ← HX.out, set_same]
      rw [e]
      exact OI.more (OI.set_ (OI.set_ ho4.out (by show w.heap.size + 1 + 1 < w1.heap.size; omega) _) (by show w.heap.size + 1 + 1 < w1.heap.size; omega) _) hw1
    · exact Below.setCell (Below.setCell (hB3) (by show w.heap.size ≤ w.heap.size + 1 + 1; omega) _) (by show w.heap.size ≤ w.heap.size + 1 + 1; omega) _
  · have ko4 := ko.far (p := ⟨g, y, none⟩) (fun e => hgo e.symm) (.int .i64 (n))
    have kz4 := kz3.far (p := ⟨g, y, none⟩) (by show w.heap.size + 1 + 1 ≠ g; omega) (.int .i64 (n))
    have ho4 := Lib.hid (OI.set7 (v := n) ho.out (by rw [HL.out]; exact hy))
    have ro4 := ko4.rule
    have rz4 := kz4.rule
    have fz4 := fun i => kz4.frozen i
    have kz5 : Blk ((w3.setCell ⟨g, y, none⟩ (.int .i64 (n))).setCell ⟨w.heap.size + 1 + 1, 0, none⟩ (.slice (some ⟨g, 0, none⟩) 4 d)) (w.heap.size + 1 + 1) 46 #[.slice (some ⟨g, 0, none⟩) 4 d, .int .i64 0] := kz4.set_ 0 _
    have kz6 : Blk (((w3.setCell ⟨g, y, none⟩ (.int .i64 (n))).setCell ⟨w.heap.size + 1 + 1, 0, none⟩ (.slice (some ⟨g, 0, none⟩) 4 d)).setCell ⟨w.heap.size + 1 + 1, 1, none⟩ (.int .i64 (m + 1))) (w.heap.size + 1 + 1) 46 #[.slice (some ⟨g, 0, none⟩) 4 d, .int .i64 (m + 1)] := kz5.set_ 1 _
    have rz5 := kz5.rule
    have fz5 := fun i => kz5.frozen i
    have rz6 := kz6.rule
    go_wp2
    refine bodyPost_ret (v := .tuple #[.agg #[.slice (some ⟨g, 0, none⟩) 4 d, .int .i64 (m + 1)], .int .i64 x]) (by simp [results, Tryd.results100, go_sem, rz6]) rfl ⟨some ⟨g, 0, none⟩, d, by rw [HDL.out], by rw [HDL.out]; exact hd, ?_, ?_⟩
    · have e : us = xs.set y (n) := by rw [HDX.out]; unfold doN; rw [if_pos rfl]
      rw [e]
      exact OI.more (OI.set_ (OI.set_ ho4.out (by show w.heap.size + 1 + 1 < w1.heap.size; omega) _) (by show w.heap.size + 1 + 1 < w1.heap.size; omega) _) hw1
    · exact Below.setCell (Below.setCell (Below.setCell hB3 (by show w.heap.size ≤ g; omega) _) (by show w.heap.size ≤ w.heap.size + 1 + 1; omega) _) (by show w.heap.size ≤ w.heap.size + 1 + 1; omega) _
  · by_cases hsum : x + n ≤ 1000
    · have ko4 := ko.far (p := ⟨g, y, none⟩) (fun e => hgo e.symm) (.int .i64 (x + n))
      have kz4 := kz3.far (p := ⟨g, y, none⟩) (by show w.heap.size + 1 + 1 ≠ g; omega) (.int .i64 (x + n))
      have ho4 := Lib.hid (OI.set7 (v := x + n) ho.out (by rw [HL.out]; exact hy))
      have ro4 := ko4.rule
      have rz4 := kz4.rule
      have fz4 := fun i => kz4.frozen i
      have kz5 : Blk ((w3.setCell ⟨g, y, none⟩ (.int .i64 (x + n))).setCell ⟨w.heap.size + 1 + 1, 0, none⟩ (.slice (some ⟨g, 0, none⟩) 4 d)) (w.heap.size + 1 + 1) 46 #[.slice (some ⟨g, 0, none⟩) 4 d, .int .i64 0] := kz4.set_ 0 _
      have kz6 : Blk (((w3.setCell ⟨g, y, none⟩ (.int .i64 (x + n))).setCell ⟨w.heap.size + 1 + 1, 0, none⟩ (.slice (some ⟨g, 0, none⟩) 4 d)).setCell ⟨w.heap.size + 1 + 1, 1, none⟩ (.int .i64 (m + 1))) (w.heap.size + 1 + 1) 46 #[.slice (some ⟨g, 0, none⟩) 4 d, .int .i64 (m + 1)] := kz5.set_ 1 _
      have rz5 := kz5.rule
      have fz5 := fun i => kz5.frozen i
      have rz6 := kz6.rule
      go_wp2
      refine bodyPost_ret (v := .tuple #[.agg #[.slice (some ⟨g, 0, none⟩) 4 d, .int .i64 (m + 1)], .int .i64 x]) (by simp [results, Tryd.results100, go_sem, rz6]) rfl ⟨some ⟨g, 0, none⟩, d, by rw [HDL.out], by rw [HDL.out]; exact hd, ?_, ?_⟩
      · have e : us = xs.set y (x + n) := by rw [HDX.out]; unfold doN growN; rw [if_neg (by decide), if_pos rfl, if_pos hsum]
        rw [e]
        exact OI.more (OI.set_ (OI.set_ ho4.out (by show w.heap.size + 1 + 1 < w1.heap.size; omega) _) (by show w.heap.size + 1 + 1 < w1.heap.size; omega) _) hw1
      · exact Below.setCell (Below.setCell (Below.setCell hB3 (by show w.heap.size ≤ g; omega) _) (by show w.heap.size ≤ w.heap.size + 1 + 1; omega) _) (by show w.heap.size ≤ w.heap.size + 1 + 1; omega) _
    · have hsum' : 1000 < x + n := by omega
      have ko4 := ko
      have kz4 := kz3
      have ho4 := ho
      have kz5 : Blk (w3.setCell ⟨w.heap.size + 1 + 1, 0, none⟩ (.slice (some ⟨g, 0, none⟩) 4 d)) (w.heap.size + 1 + 1) 46 #[.slice (some ⟨g, 0, none⟩) 4 d, .int .i64 0] := kz4.set_ 0 _
      have kz6 : Blk ((w3.setCell ⟨w.heap.size + 1 + 1, 0, none⟩ (.slice (some ⟨g, 0, none⟩) 4 d)).setCell ⟨w.heap.size + 1 + 1, 1, none⟩ (.int .i64 (m + 1))) (w.heap.size + 1 + 1) 46 #[.slice (some ⟨g, 0, none⟩) 4 d, .int .i64 (m + 1)] := kz5.set_ 1 _
      have rz5 := kz5.rule
      have fz5 := fun i => kz5.frozen i
      have rz6 := kz6.rule
      go_wp2
      refine bodyPost_ret (v := .tuple #[.agg #[.slice (some ⟨g, 0, none⟩) 4 d, .int .i64 (m + 1)], .int .i64 x]) (by simp [results, Tryd.results100, go_sem, rz6]) rfl ⟨some ⟨g, 0, none⟩, d, by rw [HDL.out], by rw [HDL.out]; exact hd, ?_, ?_⟩
      · have e : us = xs := by rw [HDX.out]; unfold doN growN; rw [if_neg (by decide), if_pos rfl, if_neg (by omega), ← HX.out, set_same]
        rw [e]
        exact OI.more (OI.set_ (OI.set_ ho4.out (by show w.heap.size + 1 + 1 < w1.heap.size; omega) _) (by show w.heap.size + 1 + 1 < w1.heap.size; omega) _) hw1
      · exact Below.setCell (Below.setCell (hB3) (by show w.heap.size ≤ w.heap.size + 1 + 1; omega) _) (by show w.heap.size ≤ w.heap.size + 1 + 1; omega) _

theorem l7do_cap (A : Option Addr) (c : Nat) (xs : List Int) (m k n : Int) (y : Nat) (w : World) (hr : RdI w w.heap.size A xs) (hl : xs.length = 4) (hy : y < 4) (hk0 : 0 ≤ k) (hk1 : k ≤ 2) (h0 : 0 ≤ n) (h1 : n ≤ 4) (hm0 : 0 ≤ m) (hm1 : m ≤ 999) (hx : 0 ≤ xs.getD y 0 ∧ xs.getD y 0 ≤ 1000) :
    Calls Tryd.prog 100 #[.agg #[.slice A 4 c, .int .i64 m], .agg #[.int .i64 k, .int .i64 (y : Int), .int .i64 n]] w fun e w' => ∃ B d, e = .returned (.tuple #[.agg #[.slice B 4 d, .int .i64 (m + 1)], .int .i64 (xs.getD y 0)]) ∧ 4 ≤ d ∧ OI w' 3 w.heap.size B (doX xs k y n) ∧ Below w.heap.size w w' := by
  have h4 : (doX xs k y n).length = 4 := by rw [doX_len, hl]
  refine (l7doc_any A c xs m k n y w hr hl hy hk0 hk1 h0 h1 hm0 hm1 hx).mono ?_
  rintro e w' ⟨B, d, rfl, hd, ho, hb⟩
  exact ⟨B, d, by rw [h4], by rw [h4] at hd; exact hd, ho, hb⟩
end Go.Proofs.YtbogagddjkghhaaDoor.V
