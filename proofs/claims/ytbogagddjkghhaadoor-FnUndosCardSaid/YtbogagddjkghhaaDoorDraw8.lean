/-
  The model's draw of a store: contract. No statement is proved here.
-/
import Derived.Test.YtbogagddjkghhaaDoorDraw7
import Derived.Test.YtbogagddjkghhaaDoorStD2
import Derived.Deep.RegionHeld3
import Derived.Deep.CutRange
set_option linter.unusedVariables false
set_option maxRecDepth 100000
namespace Go.Proofs.YtbogagddjkghhaaDoor.V
open Go.RowKit Go.Proofs.YtbogagddjkghhaaDoor.B
/-- The store that is being drawn: the cursor, the box, the row. -/
def LS (w0 wr : World) (Bd p o : Nat) (B : Option Addr) (d : Nat) (xs : List Int) (m : Int) : Prop :=
  Cur Bd wr p ∧ Blk wr o 46 #[.slice B 4 d, .int .i64 m] ∧ OI wr 3 w0.heap.size B xs ∧ w0.grownBy wr (some p)
section
variable {w0 wr w' : World} {Bd p o d : Nat} {B : Option Addr} {xs : List Int} {m : Int}
theorem LS.cur (h : LS w0 wr Bd p o B d xs m) (hp : p < w0.heap.size) (hc : Cur Bd w' p) (hg : wr.grownBy w' (some p)) (hop : o ≠ p) : LS w0 w' Bd p o B d xs m :=
  ⟨hc, keepK h.2.1 hg (fun e => by injection e with e; exact hop e.symm), OI.keep h.2.2.1 hg (fun g e e2 => by have := h.2.2.1.ge g e; injection e2 with e2; omega), g7_two h.2.2.2 hg⟩
theorem LS.on (h : LS w0 wr Bd p o B d xs m) (hb : Below wr.heap.size wr w') : LS w0 w' Bd p o B d xs m := ⟨cur_next h.1 hb, h.2.1.on hb, h.2.2.1.on hb, g7_two h.2.2.2 (g7_of hb _)⟩
theorem LS.dr (h : LS w0 wr Bd p o B d xs m) : LS w0 wr.drew Bd p o B d xs m := h.on (Below.refl _ _).drew
theorem LS.put (h : LS w0 wr Bd p o B d xs m) (ho : w0.heap.size ≤ o) (hop : o ≠ p) (hBd : Bd ≤ w0.heap.size) {B2 : Option Addr} {d2 : Nat} {us : List Int} {m2 : Int} (h2 : OI wr 3 w0.heap.size B2 us) :
    LS w0 ((wr.setCell ⟨o, 0, none⟩ (.slice B2 4 d2)).setCell ⟨o, 1, none⟩ (.int .i64 m2)) Bd p o B2 d2 us m2 :=
  ⟨cur_set (cur_set h.1 (by exact hop) (by show Bd ≤ o; omega) _) (by exact hop) (by show Bd ≤ o; omega) _, (h.2.1.set_ 0 _).set_ 1 _, oi_set7 (oi_set7 h2 h.2.1 0 _) (h.2.1.set_ 0 _) 1 _, g7_set (g7_set h.2.2.2 (by exact ho) _) (by exact ho) _⟩
theorem LS.count (h : LS w0 wr Bd p o B d xs m) (ho : w0.heap.size ≤ o) (hop : o ≠ p) (hBd : Bd ≤ w0.heap.size) (m2 : Int) :
    LS w0 (wr.setCell ⟨o, 1, none⟩ (.int .i64 m2)) Bd p o B d xs m2 :=
  ⟨cur_set h.1 (by exact hop) (by show Bd ≤ o; omega) _, h.2.1.set_ 1 _, oi_set7 h.2.2.1 h.2.1 1 _, g7_set h.2.2.2 (by exact ho) _⟩
theorem LS.val {g : Nat} (h : LS w0 wr Bd p o (some ⟨g, 0, none⟩) d xs m) (hp : p < w0.heap.size) (hBd : Bd ≤ w0.heap.size) (hl : 0 < xs.length) (v : Int) :
    LS w0 (wr.setCell ⟨g, 0, none⟩ (.int .i64 v)) Bd p o (some ⟨g, 0, none⟩) d (xs.set 0 v) m := by
  have hg := h.2.2.1.ge g rfl
  have hne : o ≠ g := fun e => oi_ne7 (t := 0) h.2.2.1 h.2.1 g rfl e.symm
  exact ⟨cur_set h.1 (by show g ≠ p; omega) (by show Bd ≤ g; omega) _, h.2.1.far (by exact hne) _, OI.set7 (y := 0) h.2.2.1 hl, g7_set h.2.2.2 (by exact hg) _⟩
end
theorem rd_drop1 {w : World} {Bd g : Nat} {xs : List Int} (h : RdI w Bd (some ⟨g, 0, none⟩) xs) : RdI w Bd (some ⟨g, 1, none⟩) (xs.drop 1) := fun hn => by
  rw [List.length_drop] at hn
  obtain ⟨b, off, e, hb, hc⟩ := h (by omega)
  injection e with e
  injection e with e1 e2
  subst e1 e2
  refine ⟨g, 1, rfl, hb, fun i hi => ?_⟩
  rw [List.length_drop] at hi
  have e : (xs.drop 1).getD i 0 = xs.getD (1 + i) 0 := by simp only [List.getD]; rw [List.getElem?_drop]
  rw [e]
  have := hc (1 + i) (by omega)
  rwa [Nat.zero_add] at this
theorem oi_new {w : World} {t base : Nat} {B : Option Addr} {xs : List Int} (h : OI w t base B xs) : ∀ b off, B = some ⟨b, off, none⟩ → base ≤ b := by
  intro b off e
  rcases h with ⟨rfl, _⟩ | ⟨g, cur, rfl, hg, _⟩
  · cases e
  · injection e with e
    injection e with e
    omega
theorem rd_grown {w w' : World} {B : Option Addr} {xs : List Int} {p : Nat} (h : RdI w w.heap.size B xs) (hg : w.grownBy w' (some p)) (hne : ∀ b off, B = some ⟨b, off, none⟩ → b ≠ p) : RdI w' w'.heap.size B xs := fun hn => by
  obtain ⟨b, off, rfl, hb, hc⟩ := h hn
  have hbp := hne b off rfl
  exact ⟨b, off, rfl, by have := hg.size; omega, fun i hi => (World.cell?_of_block (a := ⟨b, off + i, none⟩) (hg.block b hb (fun e => by injection e with e; exact hbp e))).trans (hc i hi)⟩
theorem rd_far {w : World} {B : Option Addr} {xs : List Int} {q : Addr} (h : RdI w w.heap.size B xs) (hne : ∀ b off, B = some ⟨b, off, none⟩ → b ≠ q.block) (u : Value) : RdI (w.setCell q u) (w.setCell q u).heap.size B xs := fun hn => by
  obtain ⟨b, off, rfl, hb, hc⟩ := h hn
  have hbp := hne b off rfl
  exact ⟨b, off, rfl, by simpa [World.setCell] using hb, fun i hi => (World.cell?_setCell_other w q ⟨b, off + i, none⟩ u (fun e => hbp (by rw [e]))).trans (hc i hi)⟩
/-- A store, good or not, that was drawn. -/
def DS (Bd p : Nat) (w : World) (e : Ending) (w' : World) : Prop :=
  ∃ B d xs, ∃ m : Int, e = .returned (.agg #[.slice B (xs : List Int).length d, .int .i64 m]) ∧ xs.length ≤ 4 ∧ RdI w' w'.heap.size B xs ∧ (∀ b off, B = some ⟨b, off, none⟩ → w.heap.size ≤ b) ∧ Cur Bd w' p ∧ w.grownBy w' (some p)
set_option maxHeartbeats 6400000 in
theorem l7store_any (Bd p : Nat) (w : World) (h : Cur Bd w p) (hBw : Bd ≤ w.heap.size) : Calls Tryd.prog 57 #[.pointer (some ⟨p, 0, none⟩)] w (DS Bd p w) := by
  have hpl := (cur_lt h).1
  have kr := Blk.new w 46 #[.slice none 0 0, .int .i64 0]
  have hc0 := cur_next h ((Below.refl _ _).alloc (Nat.le_refl _) (.cells #[.slice none 0 0, .int .i64 0] 46))
  have hg0 : w.grownBy (w.alloc (.cells #[.slice none 0 0, .int .i64 0] 46)) (some p) := g7_of ((Below.refl _ _).alloc (Nat.le_refl _) _) _
  go_enter Tryd.func57, Tryd.ntmps57
  go_wp2_with fail
  refine (specNew_any _).mono ?_
  rintro e w1 ⟨B1, d1, rfl, hd1, ho1, hb1⟩
  have kr1 := kr.on hb1
  have hz1 := hb1.size
  simp only [World.size_alloc] at hz1 ho1
  have hs2 : LS w (w1.alloc (.cells #[.slice B1 4 d1, .int .i64 0] 46)) Bd p w1.heap.size B1 d1 [0, 0, 0, 0] 0 :=
    ⟨cur_next hc0 (hb1.alloc hb1.size _), Blk.new _ _ _, (ho1.up _).more (by omega), g7_two hg0 (g7_of (hb1.alloc hb1.size _) _)⟩
  have kr2 := kr1.alloc (.cells #[.slice B1 4 d1, .int .i64 0] 46)
  have hop : w1.heap.size ≠ p := by omega
  have how : w.heap.size ≤ w1.heap.size := by omega
  have hwo : w.heap.size ≠ w1.heap.size := by omega
  have hs2z := hs2.2.1.lt
  have hd1' : 4 ≤ d1 := hd1
  clear hc0 hg0 hb1 kr kr1 ho1 hd1 h hz1
  go_wp2_with fail
  generalize w1.heap.size = o at *
  generalize w1.alloc (.cells #[.slice B1 4 d1, .int .i64 0] 46) = w2 at *
  refine (below_i Bd p 8 (by omega) (by omega) _ hs2.1).mono ?_
  rintro e w3 ⟨n, hn, rfl, hc3, hg3⟩
  have hs3 := hs2.cur hpl hc3 hg3 hop
  have kr3 := keepK kr2 hg3 (fun e => by injection e with e; omega)
  clear hs2 hc3 hg3 kr2
  go_wp2
  go_loopw [5] (fun i wr => ∃ (j : Nat) (B : Option Addr) (d : Nat) (xs : List Int), j ≤ n ∧ i = .int .i64 j ∧ 4 ≤ d ∧ Hid (inR xs) ∧ Hid (LS w wr Bd p o B d xs j) ∧ Hid (Blk wr w.heap.size 46 #[.slice none 0 0, .int .i64 0])) (fun i _ => n - (intOf i).toNat)
  case atStart => exact ⟨0, B1, d1, [0, 0, 0, 0], Nat.zero_le _, rfl, hd1', ⟨rfl, fun j hj => by match j, hj with | 0, _ => simp | 1, _ => simp | 2, _ => simp | 3, _ => simp⟩, hs3, kr3⟩
  case round =>
    clear hs3 kr3 hd1' hs2z
    obtain ⟨j, B, d, xs, hj, rfl, hd4, hin, hs, kr⟩ := hrel
    have ro := hs.out.2.1.rule
    by_cases hlj : j < n
    · have hW : IntKind.i64.wrap ((j : Int) + 1) = (j : Int) + 1 := IntWalk.i64_in _ (by omega)
      have hdr := Lib.hid hs.out.dr
      have hkr := Lib.hid (Blk.dr kr.out)
      have hsz : w.heap.size ≤ wr.heap.size := hs.out.2.2.2.size
      go_wp2
      go_region_law (first
        | (go_simp; go_at_call 101; refine (l7cmd_any Bd p _ hdr.out.1 (by show Bd ≤ wr.heap.size; omega)).mono ?_; rintro e w4 ⟨k, y, z, q1, q2, q3, q4, q5, q6, q7, rfl, hc4, hg4⟩; obtain ⟨y, rfl⟩ : ∃ y' : Nat, y = y' := ⟨y.toNat, by omega⟩; have hs4 := Lib.hid (hdr.out.cur hpl hc4 hg4 hop); have kr4 := Lib.hid (keepK hkr.out hg4 (fun e => by injection e with e; omega)); have ro4 := hs4.out.2.1.rule; have q8 : y < 4 := (by omega); have hxy := Lib.hid (hin.out.2 y q8); have q6' : z ≤ 4 := (by omega); clear q3 q4 q6 q7 hc4 hg4)
        | (go_simp; go_at_call 100; refine (l7do_cap B d xs j k z y _ hs4.out.2.2.1.rd hin.out.1 q8 q1 q2 q5 q6' (by omega) (by omega) hxy.out).mono ?_; rintro e w5 ⟨B5, d5, rfl, hd5, ho5, hb5⟩; have hs5 := Lib.hid (hs4.out.on hb5); have kr5 := Lib.hid (kr4.out.on hb5); have ho5' := Lib.hid (OI.more ho5 (by have := hs4.out.2.2.2.size; omega)); have ro5 := hs5.out.2.1.rule; have fo5 := (fun i => hs5.out.2.1.frozen i); have k6 := hs5.out.2.1.set_ 0 (.slice B5 4 d5); have ro6 : ∀ i, (w5.setCell ⟨o, 0, none⟩ (.slice B5 4 d5)).cell? ⟨o, i, none⟩ = _ := k6.rule; have fo6 := (fun i => k6.frozen i); clear k6))
      all_goals go_wp2
      all_goals go_roundw
      all_goals first
        | (exact ⟨j + 1, B5, d5, doX xs k y z, by omega, by go_num, hd5, doX_in hin.out q5 q6' q8, (by have h := hs5.out.put how hop hBw (d2 := d5) (m2 := ((j + 1 : Nat) : Int)) ho5'.out; exact h), (kr5.out.far (by exact hwo) _).far (by exact hwo) _⟩)
        | (simp [intOf]; omega)
    · obtain rfl : j = n := by omega
      obtain ⟨m, hmj⟩ : ∃ m : Int, (j : Int) = m := ⟨_, rfl⟩
      rw [hmj] at hs
      clear hmj hlj
      have H4 := Lib.hid hin.out.1
      clear ro
      go_wp2_with fail
      refine (once_any Bd p 9 (by omega) (by omega) _ hs.out.1).mono ?_
      rintro e wA ⟨q, rfl, hc_, hg_⟩
      have hs_ := Lib.hid (hs.out.cur hpl hc_ hg_ hop)
      have kr_ := Lib.hid (keepK kr.out hg_ (fun e => by injection e with e; omega))
      clear hs kr hc_ hg_
      have hs := hs_; have kr := kr_; clear hs_ kr_
      cases q
      · go_wp2_with fail
        refine (once_any Bd p 12 (by omega) (by omega) _ hs.out.1).mono ?_
        rintro e wD ⟨q, rfl, hc_, hg_⟩
        have hs_ := Lib.hid (hs.out.cur hpl hc_ hg_ hop)
        have kr_ := Lib.hid (keepK kr.out hg_ (fun e => by injection e with e; omega))
        clear hs kr hc_ hg_
        have hs := hs_; have kr := kr_; clear hs_ kr_
        cases q
        · go_wp2_with fail
          refine (once_any Bd p 15 (by omega) (by omega) _ hs.out.1).mono ?_
          rintro e wC ⟨q, rfl, hc_, hg_⟩
          have hs_ := Lib.hid (hs.out.cur hpl hc_ hg_ hop)
          have kr_ := Lib.hid (keepK kr.out hg_ (fun e => by injection e with e; omega))
          clear hs kr hc_ hg_
          have hs := hs_; have kr := kr_; clear hs_ kr_
          cases q
          · have kb_o0 := hs.out.2.1
            have kb_r0 := kr.out
            have hoi := Lib.hid hs.out.2.2.1
            have hcu := Lib.hid hs.out.1
            have hgg := Lib.hid hs.out.2.2.2
            have rr9_0 := kb_r0.rule
            have fr9_0 := fun i => kb_r0.frozen i
            have ro9_0 := kb_o0.rule
            have fo9_0 := fun i => kb_o0.frozen i
            have kr9_1 : Blk (wC.setCell ⟨w.heap.size, 0, none⟩ (.slice B 4 d)) (w.heap.size) 46 #[.slice B 4 d, .int .i64 0] := kb_r0.set_ 0 _
            have ko9_1 := kb_o0.far (p := ⟨w.heap.size, 0, none⟩) (by show o ≠ w.heap.size; omega) (.slice B 4 d)
            have rr9_1 := kr9_1.rule
            have fr9_1 := fun i => kr9_1.frozen i
            have ro9_1 := ko9_1.rule
            have fo9_1 := fun i => ko9_1.frozen i
            have kr9_2 : Blk ((wC.setCell ⟨w.heap.size, 0, none⟩ (.slice B 4 d)).setCell ⟨w.heap.size, 1, none⟩ (.int .i64 (m))) (w.heap.size) 46 #[.slice B 4 d, .int .i64 (m)] := kr9_1.set_ 1 _
            have ko9_2 := ko9_1.far (p := ⟨w.heap.size, 1, none⟩) (by show o ≠ w.heap.size; omega) (.int .i64 (m))
            have rr9_2 := kr9_2.rule
            have fr9_2 := fun i => kr9_2.frozen i
            have ro9_2 := ko9_2.rule
            have fo9_2 := fun i => ko9_2.frozen i
            have HOI := Lib.hid (oi_set7 (oi_set7 hoi.out kb_r0 0 (.slice B 4 d)) (kb_r0.set_ 0 _) 1 (.int .i64 (m)))
            have HRE := Lib.hid HOI.out.rd
            go_wp2
            refine bodyPost_ret (v := .agg #[.slice B 4 d, .int .i64 (m)]) (by simp [results, Tryd.results57, go_sem, rr9_2]) rfl ?_
            refine ⟨B, d, xs, _, by rw [H4.out], by rw [H4.out]; exact Nat.le_refl _, HRE.out, oi_new HOI.out, ?_, ?_⟩
            · iterate 2 refine cur_set ?_ (by show w.heap.size ≠ p; omega) hBw _
              exact hcu.out
            · iterate 2 refine g7_set ?_ (by show w.heap.size ≤ w.heap.size; omega) _
              exact hgg.out
          · obtain ⟨g, cs, rfl, hgb, hk_, hpi_⟩ := hs.out.2.2.1.row7 (by rw [H4.out]; omega)
            clear hk_ hpi_
            have ro := hs.out.2.1.rule
            have fo := fun i => hs.out.2.1.frozen i
            have kb_o0 : Blk (wC.setCell ⟨o, 0, none⟩ (.slice (some ⟨g, 1, none⟩) 3 (d - 1))) o 46 #[.slice (some ⟨g, 1, none⟩) 3 (d - 1), .int .i64 (m)] := hs.out.2.1.set_ 0 _
            have kb_r0 := kr.out.far (p := ⟨o, 0, none⟩) (by exact hwo) (.slice (some ⟨g, 1, none⟩) 3 (d - 1))
            have hoi := Lib.hid (oi_set7 hs.out.2.2.1 hs.out.2.1 0 (.slice (some ⟨g, 1, none⟩) 3 (d - 1)))
            have hcu := Lib.hid (cur_set hs.out.1 (q := ⟨o, 0, none⟩) (by exact hop) (by show Bd ≤ o; omega) (.slice (some ⟨g, 1, none⟩) 3 (d - 1)))
            have hgg := Lib.hid (g7_set hs.out.2.2.2 (q := ⟨o, 0, none⟩) (by exact how) (.slice (some ⟨g, 1, none⟩) 3 (d - 1)))
            have i1 : (1 : Int) ≤ 4 := by omega
            have i2 : ¬ d = 1 := by omega
            have i3 : (4 : Int) ≤ (d : Int) := by omega
            have rr9_0 := kb_r0.rule
            have fr9_0 := fun i => kb_r0.frozen i
            have ro9_0 := kb_o0.rule
            have fo9_0 := fun i => kb_o0.frozen i
            have kr9_1 : Blk ((wC.setCell ⟨o, 0, none⟩ (.slice (some ⟨g, 1, none⟩) 3 (d - 1))).setCell ⟨w.heap.size, 0, none⟩ (.slice (some ⟨g, 1, none⟩) 3 (d - 1))) (w.heap.size) 46 #[.slice (some ⟨g, 1, none⟩) 3 (d - 1), .int .i64 0] := kb_r0.set_ 0 _
            have ko9_1 := kb_o0.far (p := ⟨w.heap.size, 0, none⟩) (by show o ≠ w.heap.size; omega) (.slice (some ⟨g, 1, none⟩) 3 (d - 1))
            have rr9_1 := kr9_1.rule
            have fr9_1 := fun i => kr9_1.frozen i
            have ro9_1 := ko9_1.rule
            have fo9_1 := fun i => ko9_1.frozen i
            have kr9_2 : Blk (((wC.setCell ⟨o, 0, none⟩ (.slice (some ⟨g, 1, none⟩) 3 (d - 1))).setCell ⟨w.heap.size, 0, none⟩ (.slice (some ⟨g, 1, none⟩) 3 (d - 1))).setCell ⟨w.heap.size, 1, none⟩ (.int .i64 (m))) (w.heap.size) 46 #[.slice (some ⟨g, 1, none⟩) 3 (d - 1), .int .i64 (m)] := kr9_1.set_ 1 _
            have ko9_2 := ko9_1.far (p := ⟨w.heap.size, 1, none⟩) (by show o ≠ w.heap.size; omega) (.int .i64 (m))
            have rr9_2 := kr9_2.rule
            have fr9_2 := fun i => kr9_2.frozen i
            have ro9_2 := ko9_2.rule
            have fo9_2 := fun i => ko9_2.frozen i
            have HOI := Lib.hid (oi_set7 (oi_set7 hoi.out kb_r0 0 (.slice (some ⟨g, 1, none⟩) 3 (d - 1))) (kb_r0.set_ 0 _) 1 (.int .i64 (m)))
            have HRE := Lib.hid HOI.out.rd
            go_wp2
            refine bodyPost_ret (v := .agg #[.slice (some ⟨g, 1, none⟩) 3 (d - 1), .int .i64 (m)]) (by simp [results, Tryd.results57, go_sem, rr9_2]) rfl ?_
            refine ⟨some ⟨g, 1, none⟩, d - 1, xs.drop 1, _, by rw [List.length_drop, H4.out], by rw [List.length_drop, H4.out]; omega, rd_drop1 HRE.out, (fun b off e => by injection e with e; injection e with e1 e2; subst e1; exact HOI.out.ge _ rfl), ?_, ?_⟩
            · iterate 2 refine cur_set ?_ (by show w.heap.size ≠ p; omega) hBw _
              exact hcu.out
            · iterate 2 refine g7_set ?_ (by show w.heap.size ≤ w.heap.size; omega) _
              exact hgg.out
        · have hsL := Lib.hid (hs.out.on ((Below.refl _ _).alloc (Nat.le_refl _) (.cells #[.int .i64 (-1), .int .i64 999, .int .i64 1000, .int .i64 1001] 3)))
          have krL := Lib.hid (kr.out.alloc (.cells #[.int .i64 (-1), .int .i64 999, .int .i64 1000, .int .i64 1001] 3))
          have hlit := Lib.hid (lit4 wD (-1) 999 1000 1001)
          have hpw : Hid (wD.heap.size ≠ p) := by have := hs.out.2.2.2.size; show _ ≠ _; omega
          clear hs kr
          go_wp2_with fail
          refine (pick_i Bd p _ 4 _ [-1, 999, 1000, 1001] rfl (by omega) (by omega) _ hsL.out.1 hlit.out hpw.out).mono ?_
          rintro e wP ⟨v, rfl, hcP, hgP⟩
          have hsP := Lib.hid (hsL.out.cur hpl hcP hgP hop)
          have krP := Lib.hid (keepK krL.out hgP (fun e => by injection e with e; omega))
          have ro := hsP.out.2.1.rule
          have fo := fun i => hsP.out.2.1.frozen i
          have hs := Lib.hid (hsP.out.count how hop hBw v)
          have kr := Lib.hid (krP.out.far (p := ⟨o, 1, none⟩) (by exact hwo) (.int .i64 v))
          clear hsL krL hlit hpw hcP hgP hsP krP
          go_wp2_with fail
          refine (once_any Bd p 15 (by omega) (by omega) _ hs.out.1).mono ?_
          rintro e wC ⟨q, rfl, hc_, hg_⟩
          have hs_ := Lib.hid (hs.out.cur hpl hc_ hg_ hop)
          have kr_ := Lib.hid (keepK kr.out hg_ (fun e => by injection e with e; omega))
          clear hs kr hc_ hg_
          have hs := hs_; have kr := kr_; clear hs_ kr_
          cases q
          · have kb_o0 := hs.out.2.1
            have kb_r0 := kr.out
            have hoi := Lib.hid hs.out.2.2.1
            have hcu := Lib.hid hs.out.1
            have hgg := Lib.hid hs.out.2.2.2
            have rr9_0 := kb_r0.rule
            have fr9_0 := fun i => kb_r0.frozen i
            have ro9_0 := kb_o0.rule
            have fo9_0 := fun i => kb_o0.frozen i
            have kr9_1 : Blk (wC.setCell ⟨w.heap.size, 0, none⟩ (.slice B 4 d)) (w.heap.size) 46 #[.slice B 4 d, .int .i64 0] := kb_r0.set_ 0 _
            have ko9_1 := kb_o0.far (p := ⟨w.heap.size, 0, none⟩) (by show o ≠ w.heap.size; omega) (.slice B 4 d)
            have rr9_1 := kr9_1.rule
            have fr9_1 := fun i => kr9_1.frozen i
            have ro9_1 := ko9_1.rule
            have fo9_1 := fun i => ko9_1.frozen i
            have kr9_2 : Blk ((wC.setCell ⟨w.heap.size, 0, none⟩ (.slice B 4 d)).setCell ⟨w.heap.size, 1, none⟩ (.int .i64 (v))) (w.heap.size) 46 #[.slice B 4 d, .int .i64 (v)] := kr9_1.set_ 1 _
            have ko9_2 := ko9_1.far (p := ⟨w.heap.size, 1, none⟩) (by show o ≠ w.heap.size; omega) (.int .i64 (v))
            have rr9_2 := kr9_2.rule
            have fr9_2 := fun i => kr9_2.frozen i
            have ro9_2 := ko9_2.rule
            have fo9_2 := fun i => ko9_2.frozen i
            have HOI := Lib.hid (oi_set7 (oi_set7 hoi.out kb_r0 0 (.slice B 4 d)) (kb_r0.set_ 0 _) 1 (.int .i64 (v)))
            have HRE := Lib.hid HOI.out.rd
            go_wp2
            refine bodyPost_ret (v := .agg #[.slice B 4 d, .int .i64 (v)]) (by simp [results, Tryd.results57, go_sem, rr9_2]) rfl ?_
            refine ⟨B, d, xs, _, by rw [H4.out], by rw [H4.out]; exact Nat.le_refl _, HRE.out, oi_new HOI.out, ?_, ?_⟩
            · iterate 2 refine cur_set ?_ (by show w.heap.size ≠ p; omega) hBw _
              exact hcu.out
            · iterate 2 refine g7_set ?_ (by show w.heap.size ≤ w.heap.size; omega) _
              exact hgg.out
          · obtain ⟨g, cs, rfl, hgb, hk_, hpi_⟩ := hs.out.2.2.1.row7 (by rw [H4.out]; omega)
            clear hk_ hpi_
            have ro := hs.out.2.1.rule
            have fo := fun i => hs.out.2.1.frozen i
            have kb_o0 : Blk (wC.setCell ⟨o, 0, none⟩ (.slice (some ⟨g, 1, none⟩) 3 (d - 1))) o 46 #[.slice (some ⟨g, 1, none⟩) 3 (d - 1), .int .i64 (v)] := hs.out.2.1.set_ 0 _
            have kb_r0 := kr.out.far (p := ⟨o, 0, none⟩) (by exact hwo) (.slice (some ⟨g, 1, none⟩) 3 (d - 1))
            have hoi := Lib.hid (oi_set7 hs.out.2.2.1 hs.out.2.1 0 (.slice (some ⟨g, 1, none⟩) 3 (d - 1)))
            have hcu := Lib.hid (cur_set hs.out.1 (q := ⟨o, 0, none⟩) (by exact hop) (by show Bd ≤ o; omega) (.slice (some ⟨g, 1, none⟩) 3 (d - 1)))
            have hgg := Lib.hid (g7_set hs.out.2.2.2 (q := ⟨o, 0, none⟩) (by exact how) (.slice (some ⟨g, 1, none⟩) 3 (d - 1)))
            have i1 : (1 : Int) ≤ 4 := by omega
            have i2 : ¬ d = 1 := by omega
            have i3 : (4 : Int) ≤ (d : Int) := by omega
            have rr9_0 := kb_r0.rule
            have fr9_0 := fun i => kb_r0.frozen i
            have ro9_0 := kb_o0.rule
            have fo9_0 := fun i => kb_o0.frozen i
            have kr9_1 : Blk ((wC.setCell ⟨o, 0, none⟩ (.slice (some ⟨g, 1, none⟩) 3 (d - 1))).setCell ⟨w.heap.size, 0, none⟩ (.slice (some ⟨g, 1, none⟩) 3 (d - 1))) (w.heap.size) 46 #[.slice (some ⟨g, 1, none⟩) 3 (d - 1), .int .i64 0] := kb_r0.set_ 0 _
            have ko9_1 := kb_o0.far (p := ⟨w.heap.size, 0, none⟩) (by show o ≠ w.heap.size; omega) (.slice (some ⟨g, 1, none⟩) 3 (d - 1))
            have rr9_1 := kr9_1.rule
            have fr9_1 := fun i => kr9_1.frozen i
            have ro9_1 := ko9_1.rule
            have fo9_1 := fun i => ko9_1.frozen i
            have kr9_2 : Blk (((wC.setCell ⟨o, 0, none⟩ (.slice (some ⟨g, 1, none⟩) 3 (d - 1))).setCell ⟨w.heap.size, 0, none⟩ (.slice (some ⟨g, 1, none⟩) 3 (d - 1))).setCell ⟨w.heap.size, 1, none⟩ (.int .i64 (v))) (w.heap.size) 46 #[.slice (some ⟨g, 1, none⟩) 3 (d - 1), .int .i64 (v)] := kr9_1.set_ 1 _
            have ko9_2 := ko9_1.far (p := ⟨w.heap.size, 1, none⟩) (by show o ≠ w.heap.size; omega) (.int .i64 (v))
            have rr9_2 := kr9_2.rule
            have fr9_2 := fun i => kr9_2.frozen i
            have ro9_2 := ko9_2.rule
            have fo9_2 := fun i => ko9_2.frozen i
            have HOI := Lib.hid (oi_set7 (oi_set7 hoi.out kb_r0 0 (.slice (some ⟨g, 1, none⟩) 3 (d - 1))) (kb_r0.set_ 0 _) 1 (.int .i64 (v)))
            have HRE := Lib.hid HOI.out.rd
            go_wp2
            refine bodyPost_ret (v := .agg #[.slice (some ⟨g, 1, none⟩) 3 (d - 1), .int .i64 (v)]) (by simp [results, Tryd.results57, go_sem, rr9_2]) rfl ?_
            refine ⟨some ⟨g, 1, none⟩, d - 1, xs.drop 1, _, by rw [List.length_drop, H4.out], by rw [List.length_drop, H4.out]; omega, rd_drop1 HRE.out, (fun b off e => by injection e with e; injection e with e1 e2; subst e1; exact HOI.out.ge _ rfl), ?_, ?_⟩
            · iterate 2 refine cur_set ?_ (by show w.heap.size ≠ p; omega) hBw _
              exact hcu.out
            · iterate 2 refine g7_set ?_ (by show w.heap.size ≤ w.heap.size; omega) _
              exact hgg.out
      · obtain ⟨g, cs, rfl, hgb, hk_, hpi_⟩ := hs.out.2.2.1.row7 (by rw [H4.out]; omega)
        clear hk_ hpi_
        have ro := hs.out.2.1.rule
        have i4 : (0 : Int) < 4 := by omega
        have hsL := Lib.hid ((hs.out.on ((Below.refl _ _).alloc (Nat.le_refl _) (.cells #[.int .i64 998, .int .i64 1000, .int .i64 1001, .int .i64 (-1)] 3))).dr)
        have roL := hsL.out.2.1.rule
        have krL := Lib.hid (Blk.dr (kr.out.alloc (.cells #[.int .i64 998, .int .i64 1000, .int .i64 1001, .int .i64 (-1)] 3)))
        have hlit := Lib.hid ((lit4 wA 998 1000 1001 (-1)).dr)
        have hpw : Hid (wA.heap.size ≠ p) := by have := hs.out.2.2.2.size; show _ ≠ _; omega
        go_wp2_with fail
        go_cut [] from 23 to 28 (fun wx => ∃ xs2 : List Int, xs2.length = 4 ∧ LS w wx Bd p o (some ⟨g, 0, none⟩) d xs2 m ∧ Blk wx w.heap.size 46 #[.slice none 0 0, .int .i64 0])
        case first =>
          rename_i J_ K_ hJ_ hK_
          go_region_law (first
            | (go_simp; go_at_call 82; refine (pick_i Bd p _ 4 _ [998, 1000, 1001, -1] rfl (by omega) (by omega) _ hsL.out.1 hlit.out hpw.out).mono ?_; rintro e wB ⟨v, rfl, hcB, hgB⟩; have hsB := Lib.hid (hsL.out.cur hpl hcB hgB hop); have krB := Lib.hid (keepK krL.out hgB (fun e => by injection e with e; omega)); have roB := hsB.out.2.1.rule; obtain ⟨g2, cs2, e2, _, hkB, hpiB⟩ := hsB.out.2.2.1.row7 (by rw [H4.out]; omega); injection e2 with e2; injection e2 with e2; subst e2; have rgB := (hkB.cell 0).trans (hpiB.2 0 (by rw [H4.out]; omega)); have fgB := hkB.frozen 0; clear hcB hgB hkB hpiB))
          all_goals (refine hK_ _ _ (Met.intro (hJ_ _ _ ?_)); (repeat apply Exists.intro); refine ⟨?_, rfl⟩)
          all_goals exact ⟨xs.set 0 v, by rw [List.length_set]; exact H4.out, hsB.out.val hpl hBw (by rw [H4.out]; omega) v, krB.out.far (by show w.heap.size ≠ g; have := hsB.out.2.2.1.ge g rfl; have h1 := hsB.out.2.2.1; intro e; subst e; exact oi_ne7 (t := 0) h1 krB.out _ rfl rfl) _⟩
        case rest =>
          revert wc
          intro wA2 hcut
          obtain ⟨xs2, hl2, hs2, kr2⟩ := hcut
          have hs_ := Lib.hid hs2; have kr_ := Lib.hid kr2; have H42 := Lib.hid hl2
          clear hs kr H4 hl2 hs2 kr2 hsL krL hlit hpw ro roL hin
          have hs := hs_; have kr := kr_; have H4 := H42
          clear hs_ kr_ H42
          go_wp2_with fail
          refine (once_any Bd p 12 (by omega) (by omega) _ hs.out.1).mono ?_
          rintro e wD ⟨q, rfl, hc_, hg_⟩
          have hs_ := Lib.hid (hs.out.cur hpl hc_ hg_ hop)
          have kr_ := Lib.hid (keepK kr.out hg_ (fun e => by injection e with e; omega))
          clear hs kr hc_ hg_
          have hs := hs_; have kr := kr_; clear hs_ kr_
          cases q
          · go_wp2_with fail
            refine (once_any Bd p 15 (by omega) (by omega) _ hs.out.1).mono ?_
            rintro e wC ⟨q, rfl, hc_, hg_⟩
            have hs_ := Lib.hid (hs.out.cur hpl hc_ hg_ hop)
            have kr_ := Lib.hid (keepK kr.out hg_ (fun e => by injection e with e; omega))
            clear hs kr hc_ hg_
            have hs := hs_; have kr := kr_; clear hs_ kr_
            cases q
            · have kb_o0 := hs.out.2.1
              have kb_r0 := kr.out
              have hoi := Lib.hid hs.out.2.2.1
              have hcu := Lib.hid hs.out.1
              have hgg := Lib.hid hs.out.2.2.2
              have rr9_0 := kb_r0.rule
              have fr9_0 := fun i => kb_r0.frozen i
              have ro9_0 := kb_o0.rule
              have fo9_0 := fun i => kb_o0.frozen i
              have kr9_1 : Blk (wC.setCell ⟨w.heap.size, 0, none⟩ (.slice (some ⟨g, 0, none⟩) 4 d)) (w.heap.size) 46 #[.slice (some ⟨g, 0, none⟩) 4 d, .int .i64 0] := kb_r0.set_ 0 _
              have ko9_1 := kb_o0.far (p := ⟨w.heap.size, 0, none⟩) (by show o ≠ w.heap.size; omega) (.slice (some ⟨g, 0, none⟩) 4 d)
              have rr9_1 := kr9_1.rule
              have fr9_1 := fun i => kr9_1.frozen i
              have ro9_1 := ko9_1.rule
              have fo9_1 := fun i => ko9_1.frozen i
              have kr9_2 : Blk ((wC.setCell ⟨w.heap.size, 0, none⟩ (.slice (some ⟨g, 0, none⟩) 4 d)).setCell ⟨w.heap.size, 1, none⟩ (.int .i64 (m))) (w.heap.size) 46 #[.slice (some ⟨g, 0, none⟩) 4 d, .int .i64 (m)] := kr9_1.set_ 1 _
              have ko9_2 := ko9_1.far (p := ⟨w.heap.size, 1, none⟩) (by show o ≠ w.heap.size; omega) (.int .i64 (m))
              have rr9_2 := kr9_2.rule
              have fr9_2 := fun i => kr9_2.frozen i
              have ro9_2 := ko9_2.rule
              have fo9_2 := fun i => ko9_2.frozen i
              have HOI := Lib.hid (oi_set7 (oi_set7 hoi.out kb_r0 0 (.slice (some ⟨g, 0, none⟩) 4 d)) (kb_r0.set_ 0 _) 1 (.int .i64 (m)))
              have HRE := Lib.hid HOI.out.rd
              go_wp2
              refine bodyPost_ret (v := .agg #[.slice (some ⟨g, 0, none⟩) 4 d, .int .i64 (m)]) (by simp [results, Tryd.results57, go_sem, rr9_2]) rfl ?_
              refine ⟨(some ⟨g, 0, none⟩), d, xs2, _, by rw [H4.out], by rw [H4.out]; exact Nat.le_refl _, HRE.out, oi_new HOI.out, ?_, ?_⟩
              · iterate 2 refine cur_set ?_ (by show w.heap.size ≠ p; omega) hBw _
                exact hcu.out
              · iterate 2 refine g7_set ?_ (by show w.heap.size ≤ w.heap.size; omega) _
                exact hgg.out
            · have ro := hs.out.2.1.rule
              have fo := fun i => hs.out.2.1.frozen i
              have kb_o0 : Blk (wC.setCell ⟨o, 0, none⟩ (.slice (some ⟨g, 1, none⟩) 3 (d - 1))) o 46 #[.slice (some ⟨g, 1, none⟩) 3 (d - 1), .int .i64 (m)] := hs.out.2.1.set_ 0 _
              have kb_r0 := kr.out.far (p := ⟨o, 0, none⟩) (by exact hwo) (.slice (some ⟨g, 1, none⟩) 3 (d - 1))
              have hoi := Lib.hid (oi_set7 hs.out.2.2.1 hs.out.2.1 0 (.slice (some ⟨g, 1, none⟩) 3 (d - 1)))
              have hcu := Lib.hid (cur_set hs.out.1 (q := ⟨o, 0, none⟩) (by exact hop) (by show Bd ≤ o; omega) (.slice (some ⟨g, 1, none⟩) 3 (d - 1)))
              have hgg := Lib.hid (g7_set hs.out.2.2.2 (q := ⟨o, 0, none⟩) (by exact how) (.slice (some ⟨g, 1, none⟩) 3 (d - 1)))
              have i1 : (1 : Int) ≤ 4 := by omega
              have i2 : ¬ d = 1 := by omega
              have i3 : (4 : Int) ≤ (d : Int) := by omega
              have rr9_0 := kb_r0.rule
              have fr9_0 := fun i => kb_r0.frozen i
              have ro9_0 := kb_o0.rule
              have fo9_0 := fun i => kb_o0.frozen i
              have kr9_1 : Blk ((wC.setCell ⟨o, 0, none⟩ (.slice (some ⟨g, 1, none⟩) 3 (d - 1))).setCell ⟨w.heap.size, 0, none⟩ (.slice (some ⟨g, 1, none⟩) 3 (d - 1))) (w.heap.size) 46 #[.slice (some ⟨g, 1, none⟩) 3 (d - 1), .int .i64 0] := kb_r0.set_ 0 _
              have ko9_1 := kb_o0.far (p := ⟨w.heap.size, 0, none⟩) (by show o ≠ w.heap.size; omega) (.slice (some ⟨g, 1, none⟩) 3 (d - 1))
              have rr9_1 := kr9_1.rule
              have fr9_1 := fun i => kr9_1.frozen i
              have ro9_1 := ko9_1.rule
              have fo9_1 := fun i => ko9_1.frozen i
              have kr9_2 : Blk (((wC.setCell ⟨o, 0, none⟩ (.slice (some ⟨g, 1, none⟩) 3 (d - 1))).setCell ⟨w.heap.size, 0, none⟩ (.slice (some ⟨g, 1, none⟩) 3 (d - 1))).setCell ⟨w.heap.size, 1, none⟩ (.int .i64 (m))) (w.heap.size) 46 #[.slice (some ⟨g, 1, none⟩) 3 (d - 1), .int .i64 (m)] := kr9_1.set_ 1 _
              have ko9_2 := ko9_1.far (p := ⟨w.heap.size, 1, none⟩) (by show o ≠ w.heap.size; omega) (.int .i64 (m))
              have rr9_2 := kr9_2.rule
              have fr9_2 := fun i => kr9_2.frozen i
              have ro9_2 := ko9_2.rule
              have fo9_2 := fun i => ko9_2.frozen i
              have HOI := Lib.hid (oi_set7 (oi_set7 hoi.out kb_r0 0 (.slice (some ⟨g, 1, none⟩) 3 (d - 1))) (kb_r0.set_ 0 _) 1 (.int .i64 (m)))
              have HRE := Lib.hid HOI.out.rd
              go_wp2
              refine bodyPost_ret (v := .agg #[.slice (some ⟨g, 1, none⟩) 3 (d - 1), .int .i64 (m)]) (by simp [results, Tryd.results57, go_sem, rr9_2]) rfl ?_
              refine ⟨some ⟨g, 1, none⟩, d - 1, xs2.drop 1, _, by rw [List.length_drop, H4.out], by rw [List.length_drop, H4.out]; omega, rd_drop1 HRE.out, (fun b off e => by injection e with e; injection e with e1 e2; subst e1; exact HOI.out.ge _ rfl), ?_, ?_⟩
              · iterate 2 refine cur_set ?_ (by show w.heap.size ≠ p; omega) hBw _
                exact hcu.out
              · iterate 2 refine g7_set ?_ (by show w.heap.size ≤ w.heap.size; omega) _
                exact hgg.out
          · have hsL := Lib.hid (hs.out.on ((Below.refl _ _).alloc (Nat.le_refl _) (.cells #[.int .i64 (-1), .int .i64 999, .int .i64 1000, .int .i64 1001] 3)))
            have krL := Lib.hid (kr.out.alloc (.cells #[.int .i64 (-1), .int .i64 999, .int .i64 1000, .int .i64 1001] 3))
            have hlit := Lib.hid (lit4 wD (-1) 999 1000 1001)
            have hpw : Hid (wD.heap.size ≠ p) := by have := hs.out.2.2.2.size; show _ ≠ _; omega
            clear hs kr
            go_wp2_with fail
            refine (pick_i Bd p _ 4 _ [-1, 999, 1000, 1001] rfl (by omega) (by omega) _ hsL.out.1 hlit.out hpw.out).mono ?_
            rintro e wP ⟨v, rfl, hcP, hgP⟩
            have hsP := Lib.hid (hsL.out.cur hpl hcP hgP hop)
            have krP := Lib.hid (keepK krL.out hgP (fun e => by injection e with e; omega))
            have ro := hsP.out.2.1.rule
            have fo := fun i => hsP.out.2.1.frozen i
            have hs := Lib.hid (hsP.out.count how hop hBw v)
            have kr := Lib.hid (krP.out.far (p := ⟨o, 1, none⟩) (by exact hwo) (.int .i64 v))
            clear hsL krL hlit hpw hcP hgP hsP krP
            go_wp2_with fail
            refine (once_any Bd p 15 (by omega) (by omega) _ hs.out.1).mono ?_
            rintro e wC ⟨q, rfl, hc_, hg_⟩
            have hs_ := Lib.hid (hs.out.cur hpl hc_ hg_ hop)
            have kr_ := Lib.hid (keepK kr.out hg_ (fun e => by injection e with e; omega))
            clear hs kr hc_ hg_
            have hs := hs_; have kr := kr_; clear hs_ kr_
            cases q
            · have kb_o0 := hs.out.2.1
              have kb_r0 := kr.out
              have hoi := Lib.hid hs.out.2.2.1
              have hcu := Lib.hid hs.out.1
              have hgg := Lib.hid hs.out.2.2.2
              have rr9_0 := kb_r0.rule
              have fr9_0 := fun i => kb_r0.frozen i
              have ro9_0 := kb_o0.rule
              have fo9_0 := fun i => kb_o0.frozen i
              have kr9_1 : Blk (wC.setCell ⟨w.heap.size, 0, none⟩ (.slice (some ⟨g, 0, none⟩) 4 d)) (w.heap.size) 46 #[.slice (some ⟨g, 0, none⟩) 4 d, .int .i64 0] := kb_r0.set_ 0 _
              have ko9_1 := kb_o0.far (p := ⟨w.heap.size, 0, none⟩) (by show o ≠ w.heap.size; omega) (.slice (some ⟨g, 0, none⟩) 4 d)
              have rr9_1 := kr9_1.rule
              have fr9_1 := fun i => kr9_1.frozen i
              have ro9_1 := ko9_1.rule
              have fo9_1 := fun i => ko9_1.frozen i
              have kr9_2 : Blk ((wC.setCell ⟨w.heap.size, 0, none⟩ (.slice (some ⟨g, 0, none⟩) 4 d)).setCell ⟨w.heap.size, 1, none⟩ (.int .i64 (v))) (w.heap.size) 46 #[.slice (some ⟨g, 0, none⟩) 4 d, .int .i64 (v)] := kr9_1.set_ 1 _
              have ko9_2 := ko9_1.far (p := ⟨w.heap.size, 1, none⟩) (by show o ≠ w.heap.size; omega) (.int .i64 (v))
              have rr9_2 := kr9_2.rule
              have fr9_2 := fun i => kr9_2.frozen i
              have ro9_2 := ko9_2.rule
              have fo9_2 := fun i => ko9_2.frozen i
              have HOI := Lib.hid (oi_set7 (oi_set7 hoi.out kb_r0 0 (.slice (some ⟨g, 0, none⟩) 4 d)) (kb_r0.set_ 0 _) 1 (.int .i64 (v)))
              have HRE := Lib.hid HOI.out.rd
              go_wp2
              refine bodyPost_ret (v := .agg #[.slice (some ⟨g, 0, none⟩) 4 d, .int .i64 (v)]) (by simp [results, Tryd.results57, go_sem, rr9_2]) rfl ?_
              refine ⟨(some ⟨g, 0, none⟩), d, xs2, _, by rw [H4.out], by rw [H4.out]; exact Nat.le_refl _, HRE.out, oi_new HOI.out, ?_, ?_⟩
              · iterate 2 refine cur_set ?_ (by show w.heap.size ≠ p; omega) hBw _
                exact hcu.out
              · iterate 2 refine g7_set ?_ (by show w.heap.size ≤ w.heap.size; omega) _
                exact hgg.out
            · have ro := hs.out.2.1.rule
              have fo := fun i => hs.out.2.1.frozen i
              have kb_o0 : Blk (wC.setCell ⟨o, 0, none⟩ (.slice (some ⟨g, 1, none⟩) 3 (d - 1))) o 46 #[.slice (some ⟨g, 1, none⟩) 3 (d - 1), .int .i64 (v)] := hs.out.2.1.set_ 0 _
              have kb_r0 := kr.out.far (p := ⟨o, 0, none⟩) (by exact hwo) (.slice (some ⟨g, 1, none⟩) 3 (d - 1))
              have hoi := Lib.hid (oi_set7 hs.out.2.2.1 hs.out.2.1 0 (.slice (some ⟨g, 1, none⟩) 3 (d - 1)))
              have hcu := Lib.hid (cur_set hs.out.1 (q := ⟨o, 0, none⟩) (by exact hop) (by show Bd ≤ o; omega) (.slice (some ⟨g, 1, none⟩) 3 (d - 1)))
              have hgg := Lib.hid (g7_set hs.out.2.2.2 (q := ⟨o, 0, none⟩) (by exact how) (.slice (some ⟨g, 1, none⟩) 3 (d - 1)))
              have i1 : (1 : Int) ≤ 4 := by omega
              have i2 : ¬ d = 1 := by omega
              have i3 : (4 : Int) ≤ (d : Int) := by omega
              have rr9_0 := kb_r0.rule
              have fr9_0 := fun i => kb_r0.frozen i
              have ro9_0 := kb_o0.rule
              have fo9_0 := fun i => kb_o0.frozen i
              have kr9_1 : Blk ((wC.setCell ⟨o, 0, none⟩ (.slice (some ⟨g, 1, none⟩) 3 (d - 1))).setCell ⟨w.heap.size, 0, none⟩ (.slice (some ⟨g, 1, none⟩) 3 (d - 1))) (w.heap.size) 46 #[.slice (some ⟨g, 1, none⟩) 3 (d - 1), .int .i64 0] := kb_r0.set_ 0 _
              have ko9_1 := kb_o0.far (p := ⟨w.heap.size, 0, none⟩) (by show o ≠ w.heap.size; omega) (.slice (some ⟨g, 1, none⟩) 3 (d - 1))
              have rr9_1 := kr9_1.rule
              have fr9_1 := fun i => kr9_1.frozen i
              have ro9_1 := ko9_1.rule
              have fo9_1 := fun i => ko9_1.frozen i
              have kr9_2 : Blk (((wC.setCell ⟨o, 0, none⟩ (.slice (some ⟨g, 1, none⟩) 3 (d - 1))).setCell ⟨w.heap.size, 0, none⟩ (.slice (some ⟨g, 1, none⟩) 3 (d - 1))).setCell ⟨w.heap.size, 1, none⟩ (.int .i64 (v))) (w.heap.size) 46 #[.slice (some ⟨g, 1, none⟩) 3 (d - 1), .int .i64 (v)] := kr9_1.set_ 1 _
              have ko9_2 := ko9_1.far (p := ⟨w.heap.size, 1, none⟩) (by show o ≠ w.heap.size; omega) (.int .i64 (v))
              have rr9_2 := kr9_2.rule
              have fr9_2 := fun i => kr9_2.frozen i
              have ro9_2 := ko9_2.rule
              have fo9_2 := fun i => ko9_2.frozen i
              have HOI := Lib.hid (oi_set7 (oi_set7 hoi.out kb_r0 0 (.slice (some ⟨g, 1, none⟩) 3 (d - 1))) (kb_r0.set_ 0 _) 1 (.int .i64 (v)))
              have HRE := Lib.hid HOI.out.rd
              go_wp2
              refine bodyPost_ret (v := .agg #[.slice (some ⟨g, 1, none⟩) 3 (d - 1), .int .i64 (v)]) (by simp [results, Tryd.results57, go_sem, rr9_2]) rfl ?_
              refine ⟨some ⟨g, 1, none⟩, d - 1, xs2.drop 1, _, by rw [List.length_drop, H4.out], by rw [List.length_drop, H4.out]; omega, rd_drop1 HRE.out, (fun b off e => by injection e with e; injection e with e1 e2; subst e1; exact HOI.out.ge _ rfl), ?_, ?_⟩
              · iterate 2 refine cur_set ?_ (by show w.heap.size ≠ p; omega) hBw _
                exact hcu.out
              · iterate 2 refine g7_set ?_ (by show w.heap.size ≤ w.heap.size; omega) _
                exact hgg.out
theorem drawStoreDo_any (A : Option Addr) (n c : Nat) (hm : n ≤ maxLen) (w : World) (hr : RdC w w.heap.size A n) :
    Calls Tryd.prog 19 #[.slice A n c] w fun e w' => ∃ (B : Option Addr) (d : Nat) (xs : List Int) (m k y z : Int), e = .returned (.tuple #[.agg #[.slice B xs.length d, .int .i64 m], .agg #[.int .i64 k, .int .i64 y, .int .i64 z]]) ∧ xs.length ≤ 4 ∧ RdI w' w'.heap.size B xs ∧ Below w.heap.size w w' := by
  have kr := (Blk.new w 46 #[.slice none 0 0, .int .i64 0]).alloc (.cells #[.int .i64 0, .int .i64 0, .int .i64 0] 48)
  have kq := Blk.new (w.alloc (.cells #[.slice none 0 0, .int .i64 0] 46)) 48 #[.int .i64 0, .int .i64 0, .int .i64 0]
  simp only [World.size_alloc] at kq
  have hb0 : Below w.heap.size w ((w.alloc (.cells #[.slice none 0 0, .int .i64 0] 46)).alloc (.cells #[.int .i64 0, .int .i64 0, .int .i64 0] 48)) := up_ (up_ (Below.refl _ _) _) _
  have hr0 : RdC ((w.alloc (.cells #[.slice none 0 0, .int .i64 0] 46)).alloc (.cells #[.int .i64 0, .int .i64 0, .int .i64 0] 48)) ((w.alloc (.cells #[.slice none 0 0, .int .i64 0] 46)).alloc (.cells #[.int .i64 0, .int .i64 0, .int .i64 0] 48)).heap.size A n := (hr.below hb0).more (by simp; omega)
  go_enter Tryd.func19, Tryd.ntmps19
  go_wp2_with fail
  refine (new_any A n c hm _ hr0).mono ?_
  rintro e w1 ⟨p, rfl, hc1, hb1⟩
  have kr1 := kr.on hb1
  have kq1 := kq.on hb1
  have hB1 := on_ hb0 hb1
  have hpz := cur_lt hc1
  simp only [World.size_alloc] at hpz hc1
  have hz1 := hb1.size
  simp only [World.size_alloc] at hz1
  clear hb1 hb0 kr kq hr0
  go_wp2_with fail
  refine (l7store_any (w.heap.size + 1 + 1) p w1 hc1 hz1).mono ?_
  rintro e w2 ⟨B, d, xs, m, rfl, hxl, hrd, hnew, hc2, hg2⟩
  have kr2 := keepK kr1 hg2 (fun e => by injection e with e; omega)
  have kq2 := keepK kq1 hg2 (fun e => by injection e with e; omega)
  have hB2 := hB1.trans (g7_below hg2 (Bd := w.heap.size) (by omega) (by omega))
  have hz2 := hg2.size
  have HRD := Lib.hid hrd
  have HNEW := Lib.hid hnew
  clear hg2 kr1 kq1 hB1 hc1 hrd hnew
  go_wp2_with fail
  refine (l7bent_any (w.heap.size + 1 + 1) p w2 hc2 (by omega)).mono ?_
  rintro e w4 ⟨k, y, z, rfl, _, hg4⟩
  have kr4 := keepK kr2 hg4 (fun e => by injection e with e; omega)
  have kq4 := keepK kq2 hg4 (fun e => by injection e with e; omega)
  have hB4 := hB2.trans (g7_below hg4 (Bd := w.heap.size) (by omega) (by omega))
  have HR4 := Lib.hid (rd_grown HRD.out hg4 (fun b off e => by have := HNEW.out b off e; omega))
  clear hg4 kr2 kq2 hB2 hc2
  have rr4_0 := kr4.rule
  have fr4_0 := fun i => kr4.frozen i
  have rq4_0 := kq4.rule
  have fq4_0 := fun i => kq4.frozen i
  have kr4_1 : Blk (w4.setCell ⟨w.heap.size, 0, none⟩ (.slice B xs.length d)) (w.heap.size) 46 #[.slice B xs.length d, .int .i64 0] := kr4.set_ 0 _
  have kq4_1 := kq4.far (p := ⟨w.heap.size, 0, none⟩) (by show w.heap.size + 1 ≠ w.heap.size; omega) (.slice B xs.length d)
  have rr4_1 := kr4_1.rule
  have fr4_1 := fun i => kr4_1.frozen i
  have rq4_1 := kq4_1.rule
  have fq4_1 := fun i => kq4_1.frozen i
  have kr4_2 : Blk ((w4.setCell ⟨w.heap.size, 0, none⟩ (.slice B xs.length d)).setCell ⟨w.heap.size, 1, none⟩ (.int .i64 m)) (w.heap.size) 46 #[.slice B xs.length d, .int .i64 m] := kr4_1.set_ 1 _
  have kq4_2 := kq4_1.far (p := ⟨w.heap.size, 1, none⟩) (by show w.heap.size + 1 ≠ w.heap.size; omega) (.int .i64 m)
  have rr4_2 := kr4_2.rule
  have fr4_2 := fun i => kr4_2.frozen i
  have rq4_2 := kq4_2.rule
  have fq4_2 := fun i => kq4_2.frozen i
  have kr4_3 := kr4_2.far (p := ⟨w.heap.size + 1, 0, none⟩) (by show w.heap.size ≠ w.heap.size + 1; omega) (.int .i64 k)
  have kq4_3 : Blk (((w4.setCell ⟨w.heap.size, 0, none⟩ (.slice B xs.length d)).setCell ⟨w.heap.size, 1, none⟩ (.int .i64 m)).setCell ⟨w.heap.size + 1, 0, none⟩ (.int .i64 k)) (w.heap.size + 1) 48 #[.int .i64 k, .int .i64 0, .int .i64 0] := kq4_2.set_ 0 _
  have rr4_3 := kr4_3.rule
  have fr4_3 := fun i => kr4_3.frozen i
  have rq4_3 := kq4_3.rule
  have fq4_3 := fun i => kq4_3.frozen i
  have kr4_4 := kr4_3.far (p := ⟨w.heap.size + 1, 1, none⟩) (by show w.heap.size ≠ w.heap.size + 1; omega) (.int .i64 y)
  have kq4_4 : Blk ((((w4.setCell ⟨w.heap.size, 0, none⟩ (.slice B xs.length d)).setCell ⟨w.heap.size, 1, none⟩ (.int .i64 m)).setCell ⟨w.heap.size + 1, 0, none⟩ (.int .i64 k)).setCell ⟨w.heap.size + 1, 1, none⟩ (.int .i64 y)) (w.heap.size + 1) 48 #[.int .i64 k, .int .i64 y, .int .i64 0] := kq4_3.set_ 1 _
  have rr4_4 := kr4_4.rule
  have fr4_4 := fun i => kr4_4.frozen i
  have rq4_4 := kq4_4.rule
  have fq4_4 := fun i => kq4_4.frozen i
  have kr4_5 := kr4_4.far (p := ⟨w.heap.size + 1, 2, none⟩) (by show w.heap.size ≠ w.heap.size + 1; omega) (.int .i64 z)
  have kq4_5 : Blk (((((w4.setCell ⟨w.heap.size, 0, none⟩ (.slice B xs.length d)).setCell ⟨w.heap.size, 1, none⟩ (.int .i64 m)).setCell ⟨w.heap.size + 1, 0, none⟩ (.int .i64 k)).setCell ⟨w.heap.size + 1, 1, none⟩ (.int .i64 y)).setCell ⟨w.heap.size + 1, 2, none⟩ (.int .i64 z)) (w.heap.size + 1) 48 #[.int .i64 k, .int .i64 y, .int .i64 z] := kq4_4.set_ 2 _
  have rr4_5 := kr4_5.rule
  have fr4_5 := fun i => kr4_5.frozen i
  have rq4_5 := kq4_5.rule
  have fq4_5 := fun i => kq4_5.frozen i
  go_wp2
  refine bodyPost_ret (v := .tuple #[.agg #[.slice B xs.length d, .int .i64 m], .agg #[.int .i64 k, .int .i64 y, .int .i64 z]]) (by simp [results, Tryd.results19, go_sem, rr4_5, rq4_5]) rfl ⟨B, d, xs, m, k, y, z, rfl, hxl, ?_, ?_⟩
  · have h1 : ∀ b off, B = some ⟨b, off, none⟩ → b ≠ w.heap.size := fun b off e => by have := HNEW.out b off e; omega
    have h2 : ∀ b off, B = some ⟨b, off, none⟩ → b ≠ w.heap.size + 1 := fun b off e => by have := HNEW.out b off e; omega
    exact rd_far (rd_far (rd_far (rd_far (rd_far HR4.out h1 _) h1 _) h2 _) h2 _) h2 _
  · iterate 5 refine Below.setCell ?_ (by simp <;> omega) _
    exact hB4
end Go.Proofs.YtbogagddjkghhaaDoor.V
