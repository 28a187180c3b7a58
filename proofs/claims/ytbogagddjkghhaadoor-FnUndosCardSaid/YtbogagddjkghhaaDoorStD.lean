/-
  l7do and StoreDo of the model: contracts. No statement is proved here.
-/
import Derived.Test.YtbogagddjkghhaaDoorStX
import Derived.Test.YtbogagddjkghhaaDoorFin
import Derived.Deep.RegionLawGrows
set_option linter.unusedVariables false
set_option maxRecDepth 100000
namespace Go.Proofs.YtbogagddjkghhaaDoor.V
open Go.RowKit Go.Proofs.YtbogagddjkghhaaDoor.B
theorem own7 {w w' : World} {b e size n : Nat} {v : Value} {xs : List Value} (h : w.ownsRow b e size v n xs) (hb : Below w.heap.size w w') : w'.ownsRow b e size v n xs := by
  obtain ⟨hl, h⟩ := h
  refine ⟨hl, ?_⟩
  rcases h with h1 | ⟨g, cap, cur, h1, h2, h3, h4⟩
  · exact .inl h1
  · exact .inr ⟨g, cap, cur, h1, h2, (hb.block g (Array.getElem?_eq_some_iff.1 h3).1).trans h3, h4⟩

/-- What the operations of the literal yield. -/
def LV (w0 : World) (p : Nat) (A : Option Addr) (c : Nat) (m m' : Int) (xs : List Int) (j : Nat) (u : Value) (w' : World) : Prop :=
  match j with
  | 0 => ∃ b : Nat, u = .slice (some ⟨b, 0, none⟩) 0 0
  | 1 => u = .pointer (some ⟨p, 0, none⟩)
  | 2 => u = .slice A 4 c
  | 3 => ∃ B d, u = .slice B 4 d ∧ w'.ownsRow w0.heap.size 3 1 (.slice B 4 d) 4 (xs.map (Value.int .i64))
  | 4 => u = .pointer (some ⟨p, 1, none⟩)
  | 5 => u = .int .i64 m
  | 6 => u = .int .i64 m'
  | 7 => ∃ B d, u = .agg #[.slice B 4 d, .int .i64 m'] ∧ w'.ownsRow w0.heap.size 3 1 (.slice B 4 d) 4 (xs.map (Value.int .i64))
  | 8 => ∃ o, u = .pointer (some ⟨o, 0, none⟩) ∧ w0.heap.size ≤ o ∧ Blk w' o 46 #[.slice none 0 0, .int .i64 0]
  | _ => True
theorem LV.keep {w0 : World} {p : Nat} {A : Option Addr} {c : Nat} {m m' : Int} {xs : List Int} : ∀ j u w1 w2, LV w0 p A c m m' xs j u w1 → Below w1.heap.size w1 w2 → LV w0 p A c m m' xs j u w2 := by
  intro j u w1 w2 h hb
  match j, h with
  | 0, h => exact h
  | 1, h => exact h
  | 2, h => exact h
  | 3, h => obtain ⟨B, d, e, ho⟩ := h; exact ⟨B, d, e, own7 ho hb⟩
  | 4, h => exact h
  | 5, h => exact h
  | 6, h => exact h
  | 7, h => obtain ⟨B, d, e, ho⟩ := h; exact ⟨B, d, e, own7 ho hb⟩
  | 8, h => obtain ⟨o, e, h1, h2⟩ := h; exact ⟨o, e, h1, h2.on hb⟩
  | _ + 9, _ => trivial
def LR (w0 : World) (m' : Int) (xs : List Int) (us : Nat → Value) (w' : World) : Prop :=
  ∃ o B d, us 8 = .pointer (some ⟨o, 0, none⟩) ∧ w0.heap.size ≤ o ∧ 4 ≤ d ∧ Blk w' o 46 #[.slice B 4 d, .int .i64 m'] ∧ OI w' 3 w0.heap.size B xs ∧ Below w0.heap.size w0 w'
theorem LR.mk {w0 wx : World} {m' : Int} {xs : List Int} {us : Nat → Value} {o : Nat} {B : Option Addr} {d : Nat} {v : Value} (hl : xs.length = 4) (e : us 8 = .pointer (some ⟨o, 0, none⟩)) (ho : w0.heap.size ≤ o) (hk : Blk wx o 46 #[.slice none 0 0, .int .i64 0]) (hw : wx.ownsRow w0.heap.size 3 1 (.slice B 4 d) 4 (xs.map (Value.int .i64))) (hB : Below w0.heap.size w0 wx) :
    LR w0 m' xs (upd us 9 v) ((wx.setCell ⟨o, 0, none⟩ (.slice B 4 d)).setCell ⟨o, 1, none⟩ (.int .i64 m')) := by
  refine ⟨o, B, d, by rw [upd_ne (by decide)]; exact e, ho, cap7 hw, (hk.set_ 0 _).set_ 1 _, ?_, Below.setCell (Below.setCell hB ho _) ho _⟩
  have h := (OI.of_own (xs := xs) hw).2
  rcases h with ⟨rfl, rfl⟩ | ⟨g, cur, rfl, hg, hb, hp⟩
  · simp at hl
  · have hne : g ≠ o := fun e => by
      subst e
      have h1 := hb.symm.trans hk
      injection h1 with h1
      injection h1 with _ h1
      exact absurd h1 (by decide)
    exact .inr ⟨g, cur, rfl, hg, (hb.far hne _).far hne _, hp⟩

set_option maxHeartbeats 3200000 in
theorem l7do_any (A : Option Addr) (c : Nat) (xs : List Int) (m k n : Int) (y : Nat) (w : World) (hr : RdI w w.heap.size A xs) (hl : xs.length = 4) (hy : y < 4) (hk0 : 0 ≤ k) (hk1 : k ≤ 2) (h0 : 0 ≤ n) (h1 : n ≤ 4) (hm0 : 0 ≤ m) (hm1 : m ≤ 999) (hx : 0 ≤ xs.getD y 0 ∧ xs.getD y 0 ≤ 1000) :
    Calls Tryd.prog 100 #[.agg #[.slice A 4 c, .int .i64 m], .agg #[.int .i64 k, .int .i64 (y : Int), .int .i64 n]] w (SG (doX xs k y n) (m + 1) (.int .i64 (xs.getD y 0)) w) := by
  obtain ⟨i0, hi0, hz0, hz1, hz2⟩ := info_parts infoI7
  obtain ⟨b, off, rfl, hb, hc⟩ := hr (by omega)
  have hcy := hc y (by omega)
  obtain ⟨x, hxe⟩ : ∃ x, xs.getD y 0 = x := ⟨_, rfl⟩
  rw [hxe] at hcy hx ⊢
  obtain ⟨hx0, hx1⟩ := hx
  have hrd := hr.reads
  have hrd2 : ∀ j u, (xs.map (Value.int .i64))[j]? = some u → w.cell? ((⟨b, off, none⟩ : Addr).add j) = some u := by
    obtain ⟨ad, e, _, h⟩ := hrd.2 (by omega)
    injection e with e
    subst e
    exact h
  have hdl := doX_len xs k y n
  have hdx : doX xs k y n = xs.set y (doN k n x) := by unfold doX; rw [hxe]
  have HX := Lib.hid hxe; have HL := Lib.hid hl; have HDX := Lib.hid hdx
  rw [hl] at hdl
  have HDL := Lib.hid hdl
  generalize doX xs k y n = us at *
  clear hrd hc hr hxe hdl hdx hl
  have g0 : (0 : Int) ≤ (y : Int) := by omega
  have g1 : (y : Int) < 4 := by omega
  have ka := ((Blk.new w 46 #[.slice (some ⟨b, off, none⟩) 4 c, .int .i64 m]).alloc (.cells #[.int .i64 k, .int .i64 (y : Int), .int .i64 n] 48)).alloc (.cells #[.slice none 0 0, .int .i64 0] 46)
  have kc := (Blk.new (w.alloc (.cells #[.slice (some ⟨b, off, none⟩) 4 c, .int .i64 m] 46)) 48 #[.int .i64 k, .int .i64 (y : Int), .int .i64 n]).alloc (.cells #[.slice none 0 0, .int .i64 0] 46)
  have kz := Blk.new ((w.alloc (.cells #[.slice (some ⟨b, off, none⟩) 4 c, .int .i64 m] 46)).alloc (.cells #[.int .i64 k, .int .i64 (y : Int), .int .i64 n] 48)) 46 #[.slice none 0 0, .int .i64 0]
  simp only [World.size_alloc] at kc kz
  have hB := up_ (up_ (up_ (Below.refl w.heap.size w) (.cells #[.slice (some ⟨b, off, none⟩) 4 c, .int .i64 m] 46)) (.cells #[.int .i64 k, .int .i64 (y : Int), .int .i64 n] 48)) (.cells #[.slice none 0 0, .int .i64 0] 46)
  have hz1' : w.heap.size + 2 < (((w.alloc (.cells #[.slice (some ⟨b, off, none⟩) 4 c, .int .i64 m] 46)).alloc (.cells #[.int .i64 k, .int .i64 (y : Int), .int .i64 n] 48)).alloc (.cells #[.slice none 0 0, .int .i64 0] 46)).heap.size := by simp
  go_enter Tryd.func100, Tryd.ntmps100
  go_wp2
  generalize ((w.alloc (.cells #[.slice (some ⟨b, off, none⟩) 4 c, .int .i64 m] 46)).alloc (.cells #[.int .i64 k, .int .i64 (y : Int), .int .i64 n] 48)).alloc (.cells #[.slice none 0 0, .int .i64 0] 46) = w1 at *
  have KP := Lib.hid ka
  have HRD : Hid (Below w.heap.size w w1 ∧ True) := ⟨hB, trivial⟩
  have HRD : Hid (∀ wx, Below w1.heap.size w1 wx → ∀ j u, (xs.map (Value.int .i64))[j]? = some u → wx.cell? ((⟨b, off, none⟩ : Addr).add j) = some u) := fun wx hwx j u hu => by
    have hcell := hrd2 j u hu
    have hblk : ((⟨b, off, none⟩ : Addr).add j).block = b := block_of_add _ _
    have hbw : b < w1.heap.size := by have := hB.size; omega
    rw [hwx.cell (by rw [hblk]; exact hbw), hB.cell (by rw [hblk]; exact hb)]
    exact hcell
  have hcy1 : w1.cell? ⟨b, off + y, none⟩ = some (.int .i64 x) := (hB.cell (p := ⟨b, off + y, none⟩) hb).trans hcy
  have HB := Lib.hid hB
  clear hrd2 hcy hB
  refine wp_region_fin ?_ ?_ (LV w1 w.heap.size (some ⟨b, off, none⟩) c m (m + 1) xs) (LR w1 (m + 1) xs) 9 (by kernel_rfl) (by kernel_rfl) (by kernel_rfl) (by kernel_rfl) (by kernel_rfl) LV.keep ?_ ?_
  rotate_left
  · intro us; simp only [putL]; go_simp; exact rfl
  · refine Each.cons ?_ (Each.cons ?_ (Each.cons ?_ (Each.cons ?_ (Each.cons ?_ (Each.cons ?_ (Each.cons ?_ (Each.cons ?_ (Each.cons ?_ (Each.cons ?_ (Each.nil))))))))))
    · refine ⟨fun _ => ?_, fun h => absurd h (by decide)⟩
      intro us wx hW hD Q K hK
      go_simp
      exact hK _ _ (.slice (some ⟨wx.heap.size, 0, none⟩) 0 0) (by go_simp) ((Below.refl _ _).alloc (Nat.le_refl _) _) ⟨_, rfl⟩
    · refine ⟨fun _ => ?_, fun h => absurd h (by decide)⟩
      intro us wx hW hD Q K hK
      go_simp
      exact hK _ _ (.pointer (some ⟨w.heap.size, 0, none⟩)) (by go_simp) (Below.refl _ _) rfl
    · refine ⟨fun _ => ?_, fun h => absurd h (by decide)⟩
      intro us wx hW hD Q K hK
      have e1 : us 1 = _ := hD 1 (by decide)
      have rp := (KP.out.below hW KP.out.lt).rule
      go_simp
      exact hK _ _ (.slice (some ⟨b, off, none⟩) 4 c) (by go_simp) (Below.refl _ _) rfl
    · refine ⟨fun _ => ?_, fun h => absurd h (by decide)⟩
      intro us wx hW hD Q K hK
      obtain ⟨b0, e0⟩ := hD 0 (by decide)
      have e2 : us 2 = _ := hD 2 (by decide)
      have hrd := HRD.out wx hW
      refine step_append_grows rfl (.tmp 8) (.tmp 10) 44 rfl 3 i0 (.int .i64 0) 1 8 Tryd.underlying44 hi0 hz0 hz1 hz2 rfl (by omega) (some ⟨b0, 0, none⟩) 0 0 [] (by show us 0 = _; exact e0) (fun h => by cases h) rfl (fun _ _ j u h => by simp at h) ⟨b, off, none⟩ 4 c (xs.map (Value.int .i64)) (by show us 2 = _; exact e2) (by simp [HL.out]) hrd (one7 xs) (by omega) (by unfold maxLen; omega) (by omega) ?_
      intro v' w' hown hgr
      obtain ⟨B, d, rfl⟩ := form7 hown
      simp only [Nat.zero_add, List.nil_append] at hown ⊢
      exact hK _ _ (.slice B 4 d) rfl ⟨hgr.os, hgr.tape, hgr.output, hgr.size, fun i hi => hgr.block i hi (by simp)⟩ ⟨B, d, rfl, own_more3 hown hW.size⟩
    · refine ⟨fun _ => ?_, fun h => absurd h (by decide)⟩
      intro us wx hW hD Q K hK
      go_simp
      exact hK _ _ (.pointer (some ⟨w.heap.size, 1, none⟩)) (by go_simp) (Below.refl _ _) rfl
    · refine ⟨fun _ => ?_, fun h => absurd h (by decide)⟩
      intro us wx hW hD Q K hK
      have e4 : us 4 = _ := hD 4 (by decide)
      have rp := (KP.out.below hW KP.out.lt).rule
      go_simp
      exact hK _ _ (.int .i64 m) (by go_simp) (Below.refl _ _) rfl
    · refine ⟨fun _ => ?_, fun h => absurd h (by decide)⟩
      intro us wx hW hD Q K hK
      have e5 : us 5 = _ := hD 5 (by decide)
      have hw6 : IntKind.i64.wrap (m + 1) = m + 1 := IntWalk.i64_in _ (by omega)
      go_simp
      exact hK _ _ (.int .i64 (m + 1)) (by go_simp) (Below.refl _ _) rfl
    · refine ⟨fun _ => ?_, fun h => absurd h (by decide)⟩
      intro us wx hW hD Q K hK
      obtain ⟨B, d, e3, ho⟩ := hD 3 (by decide)
      have e6 : us 6 = _ := hD 6 (by decide)
      go_simp
      exact hK _ _ (.agg #[.slice B 4 d, .int .i64 (m + 1)]) (by go_simp) (Below.refl _ _) ⟨B, d, rfl, ho⟩
    · refine ⟨fun _ => ?_, fun h => absurd h (by decide)⟩
      intro us wx hW hD Q K hK
      go_simp
      exact hK _ _ (.pointer (some ⟨wx.heap.size, 0, none⟩)) (by go_simp) ((Below.refl _ _).alloc (Nat.le_refl _) _) ⟨_, rfl, hW.size, Blk.new _ _ _⟩
    · refine ⟨fun h => absurd rfl h, fun _ => ?_⟩
      intro us wx hW hD Q K hK
      obtain ⟨B, d, e7, ho⟩ := hD 7 (by decide)
      obtain ⟨o, e8, hlo, hko⟩ := hD 8 (by decide)
      have ro := hko.rule
      have fo := fun i => hko.frozen i
      have ro1 : ∀ i, (wx.setCell ⟨o, 0, none⟩ (.slice B 4 d)).cell? ⟨o, i, none⟩ = _ := (hko.set_ 0 (.slice B 4 d)).rule
      have fo1 := fun i => (hko.set_ 0 (.slice B 4 d)).frozen i
      go_simp
      exact hK _ _ undef (by go_simp) (LR.mk HL.out e8 hlo hko ho hW)
  intro us' w3 hR
  obtain ⟨o, B, d, e8, hlo, hd, ko, ho, hb3⟩ := hR
  simp only [e8]
  clear e8
  generalize us' 0 = z0; generalize us' 1 = z1; generalize us' 2 = z2; generalize us' 3 = z3; generalize us' 4 = z4; generalize us' 5 = z5; generalize us' 6 = z6; generalize us' 7 = z7
  clear us'
  have ka3 := KP.out.on hb3
  have kc3 := kc.on hb3
  have kz3 := kz.on hb3
  have hB3 := HB.out.trans (hb3.mono HB.out.size)
  have hcy3 : w3.cell? ⟨b, off + y, none⟩ = some (.int .i64 x) := (hb3.cell (p := ⟨b, off + y, none⟩) (World.block_lt_of_cell? _ _ hcy1)).trans hcy1
  have hw1 := HB.out.size
  clear KP HRD HB ka kc kz hcy1 hb3
  obtain ⟨g, cs, rfl, hgb, hk, hpi⟩ := ho.row7 (by rw [HL.out]; omega)
  have hcg := hpi.2 y (by rw [HL.out]; omega)
  rw [HX.out] at hcg
  have hgo : g ≠ o := fun e => by
    subst e
    have h1 := hk.symm.trans ko
    injection h1 with h1
    injection h1 with _ h1
    exact absurd h1 (by decide)
  have ro := ko.rule
  have ra := ka3.rule
  have rc := kc3.rule
  have rz := kz3.rule
  have fz := fun i => kz3.frozen i
  have rg := (hk.cell y).trans hcg
  have fg := hk.frozen y
  have HPI := Lib.hid hpi
  have ho := Lib.hid ho
  clear hpi hcg
  rcases (show k = 0 ∨ k = 1 ∨ k = 2 by omega) with rfl | rfl | rfl
  · have ko4 := ko
    have kz4 := kz3
    have ho4 := ho
    have kz5 : Blk (w3.setCell ⟨w.heap.size + 1 + 1, 0, none⟩ (.slice (some ⟨g, 0, none⟩) 4 d)) (w.heap.size + 1 + 1) 46 #[.slice (some ⟨g, 0, none⟩) 4 d, .int .i64 0] := kz4.set_ 0 _
    have kz6 : Blk ((w3.setCell ⟨w.heap.size + 1 + 1, 0, none⟩ (.slice (some ⟨g, 0, none⟩) 4 d)).setCell ⟨w.heap.size + 1 + 1, 1, none⟩ (.int .i64 (m + 1))) (w.heap.size + 1 + 1) 46 #[.slice (some ⟨g, 0, none⟩) 4 d, .int .i64 (m + 1)] := kz5.set_ 1 _
    have rz5 := kz5.rule
    have fz5 := fun i => kz5.frozen i
    have rz6 := kz6.rule
    go_wp2
    refine bodyPost_ret (v := .tuple #[.agg #[.slice (some ⟨g, 0, none⟩) 4 d, .int .i64 (m + 1)], .int .i64 x]) (by simp [results, Tryd.results100, go_sem, rz6]) rfl ⟨some ⟨g, 0, none⟩, d, by rw [HDL.out], ?_, ?_⟩
    · have e : us = xs := by rw [HDX.out]; unfold doN; rw [if_neg (by decide), if_neg (by decide), ← HX.out, set_same]
      rw [e]
      exact OI.more (OI.set_ (OI.set_ ho4.out (by show w.heap.size + 1 + 1 < w1.heap.size; omega) _) (by show w.heap.size + 1 + 1 < w1.heap.size; omega) _) hw1
    · exact Below.setCell (Below.setCell (hB3) (by show w.heap.size ≤ w.heap.size + 1 + 1; omega) _) (by show w.heap.size ≤ w.heap.size + 1 + 1; omega) _
  · have ko4 := ko.far (p := ⟨g, y, none⟩) (fun e => hgo e.symm) (.int .i64 (n))
    have kz4 := kz3.far (p := ⟨g, y, none⟩) (by show w.heap.size + 1 + 1 ≠ g; omega) (.int .i64 (n))
    have ho4 := Lib.hid (OI.set7 (v := n) ho.out (by rw [HL.out]; exact hy))
    have ro4 := ko4.rule
    have rz4 := kz4.rule
    have fz4 := fun i => kz4.frozen i
    have kz5 : Blk ((w3.setCell ⟨g, y, none⟩ (.int .i64 (n))).setCell ⟨w.heap.size + 1 + 1, 0, none⟩ (.slice (some ⟨g, 0, none⟩) 4 d)) (w.heap.size + 1 + 1) 46 #[.slice (some ⟨g, 0, none⟩) 4 d, .int .i64 0] := kz4.set_ 0 _
    have kz6 : Blk (((w3.setCell ⟨g, y, none⟩ (.int .i64 (n))).setCell ⟨w.heap.size + 1 + 1, 0, none⟩ (.slice (some ⟨g, 0, none⟩) 4 d)).setCell ⟨w.heap.size + 1 + 1, 1, none⟩ (.int .i64 (m + 1))) (w.heap.size + 1 + 1) 46 #[.slice (some ⟨g, 0, none⟩) 4 d, .int .i64 (m + 1)] := kz5.set_ 1 _
    have rz5 := kz5.rule
    have fz5 := fun i => kz5.frozen i
    have rz6 := kz6.rule
    go_wp2
    refine bodyPost_ret (v := .tuple #[.agg #[.slice (some ⟨g, 0, none⟩) 4 d, .int .i64 (m + 1)], .int .i64 x]) (by simp [results, Tryd.results100, go_sem, rz6]) rfl ⟨some ⟨g, 0, none⟩, d, by rw [HDL.out], ?_, ?_⟩
    · have e : us = xs.set y (n) := by rw [HDX.out]; unfold doN; rw [if_pos rfl]
      rw [e]
      exact OI.more (OI.set_ (OI.set_ ho4.out (by show w.heap.size + 1 + 1 < w1.heap.size; omega) _) (by show w.heap.size + 1 + 1 < w1.heap.size; omega) _) hw1
    · exact Below.setCell (Below.setCell (Below.setCell hB3 (by show w.heap.size ≤ g; omega) _) (by show w.heap.size ≤ w.heap.size + 1 + 1; omega) _) (by show w.heap.size ≤ w.heap.size + 1 + 1; omega) _
  · by_cases hsum : x + n ≤ 1000
    · have ko4 := ko.far (p := ⟨g, y, none⟩) (fun e => hgo e.symm) (.int .i64 (x + n))
      have kz4 := kz3.far (p := ⟨g, y, none⟩) (by show w.heap.size + 1 + 1 ≠ g; omega) (.int .i64 (x + n))
      have ho4 := Lib.hid (OI.set7 (v := x + n) ho.out (by rw [HL.out]; exact hy))
      have ro4 := ko4.rule
      have rz4 := kz4.rule
      have fz4 := fun i => kz4.frozen i
      have kz5 : Blk ((w3.setCell ⟨g, y, none⟩ (.int .i64 (x + n))).setCell ⟨w.heap.size + 1 + 1, 0, none⟩ (.slice (some ⟨g, 0, none⟩) 4 d)) (w.heap.size + 1 + 1) 46 #[.slice (some ⟨g, 0, none⟩) 4 d, .int .i64 0] := kz4.set_ 0 _
      have kz6 : Blk (((w3.setCell ⟨g, y, none⟩ (.int .i64 (x + n))).setCell ⟨w.heap.size + 1 + 1, 0, none⟩ (.slice (some ⟨g, 0, none⟩) 4 d)).setCell ⟨w.heap.size + 1 + 1, 1, none⟩ (.int .i64 (m + 1))) (w.heap.size + 1 + 1) 46 #[.slice (some ⟨g, 0, none⟩) 4 d, .int .i64 (m + 1)] := kz5.set_ 1 _
      have rz5 := kz5.rule
      have fz5 := fun i => kz5.frozen i
      have rz6 := kz6.rule
      go_wp2
      refine bodyPost_ret (v := .tuple #[.agg #[.slice (some ⟨g, 0, none⟩) 4 d, .int .i64 (m + 1)], .int .i64 x]) (by simp [results, Tryd.results100, go_sem, rz6]) rfl ⟨some ⟨g, 0, none⟩, d, by rw [HDL.out], ?_, ?_⟩
      · have e : us = xs.set y (x + n) := by rw [HDX.out]; unfold doN growN; rw [if_neg (by decide), if_pos rfl, if_pos hsum]
        rw [e]
        exact OI.more (OI.set_ (OI.set_ ho4.out (by show w.heap.size + 1 + 1 < w1.heap.size; omega) _) (by show w.heap.size + 1 + 1 < w1.heap.size; omega) _) hw1
      · exact Below.setCell (Below.setCell (Below.setCell hB3 (by show w.heap.size ≤ g; omega) _) (by show w.heap.size ≤ w.heap.size + 1 + 1; omega) _) (by show w.heap.size ≤ w.heap.size + 1 + 1; omega) _
    · have hsum' : 1000 < x + n := by omega
      have ko4 := ko
      have kz4 := kz3
      have ho4 := ho
      have kz5 : Blk (w3.setCell ⟨w.heap.size + 1 + 1, 0, none⟩ (.slice (some ⟨g, 0, none⟩) 4 d)) (w.heap.size + 1 + 1) 46 #[.slice (some ⟨g, 0, none⟩) 4 d, .int .i64 0] := kz4.set_ 0 _
      have kz6 : Blk ((w3.setCell ⟨w.heap.size + 1 + 1, 0, none⟩ (.slice (some ⟨g, 0, none⟩) 4 d)).setCell ⟨w.heap.size + 1 + 1, 1, none⟩ (.int .i64 (m + 1))) (w.heap.size + 1 + 1) 46 #[.slice (some ⟨g, 0, none⟩) 4 d, .int .i64 (m + 1)] := kz5.set_ 1 _
      have rz5 := kz5.rule
      have fz5 := fun i => kz5.frozen i
      have rz6 := kz6.rule
      go_wp2
      refine bodyPost_ret (v := .tuple #[.agg #[.slice (some ⟨g, 0, none⟩) 4 d, .int .i64 (m + 1)], .int .i64 x]) (by simp [results, Tryd.results100, go_sem, rz6]) rfl ⟨some ⟨g, 0, none⟩, d, by rw [HDL.out], ?_, ?_⟩
      · have e : us = xs := by rw [HDX.out]; unfold doN growN; rw [if_neg (by decide), if_pos rfl, if_neg (by omega), ← HX.out, set_same]
        rw [e]
        exact OI.more (OI.set_ (OI.set_ ho4.out (by show w.heap.size + 1 + 1 < w1.heap.size; omega) _) (by show w.heap.size + 1 + 1 < w1.heap.size; omega) _) hw1
      · exact Below.setCell (Below.setCell (hB3) (by show w.heap.size ≤ w.heap.size + 1 + 1; omega) _) (by show w.heap.size ≤ w.heap.size + 1 + 1; omega) _
end Go.Proofs.YtbogagddjkghhaaDoor.V
