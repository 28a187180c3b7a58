/-
  Marks laid on rows of reports: contracts of markReportS and heldReportS. No statement is proved here.
-/
import Derived.Test.YtcfjmhebhhekbaaVMarks
set_option linter.unusedVariables false
set_option maxRecDepth 100000
namespace Go.Proofs.Ytcfjmhebhhekbaa.V
open Go.RowKit Go.Proofs.Ytcfjmhebhhekbaa.B

/-- The mark with which report i begins. -/
def kR (qs : List Pp) (k : Int) (i : Nat) : Int := k + 3 * i + 2 * tv qs i
theorem kR_zero (qs : List Pp) (k : Int) : kR qs k 0 = k := by simp [kR, tv]
theorem kR_succ (qs : List Pp) (k : Int) (i : Nat) : kR qs k (i + 1) = kR qs k i + 3 + 2 * (qs.getD i zP).r.vs.length := by simp only [kR, tv]; omega
theorem kR_ge (qs : List Pp) (k : Int) (i : Nat) : k ≤ kR qs k i := by simp only [kR]; omega
theorem kR_le (qs : List Pp) (k : Int) {i j : Nat} (h : i ≤ j) : kR qs k i ≤ kR qs k j := by
  have := tv_mono qs h
  simp only [kR]; omega

/-- Only the blocks from lo on and below hi, and what is new, may have turned. -/
structure Mid (lo hi : Nat) (w w' : World) : Prop where
  os : w'.os = w.os
  tape : w'.tape = w.tape
  output : w'.output = w.output
  size : w.heap.size ≤ w'.heap.size
  block : ∀ k, k < w.heap.size → (k < lo ∨ hi ≤ k) → w'.heap[k]? = w.heap[k]?
theorem Mid.refl (lo hi : Nat) (w : World) : Mid lo hi w w := ⟨rfl, rfl, rfl, Nat.le_refl _, fun _ _ _ => rfl⟩
theorem Mid.trans {lo hi : Nat} {a b c : World} (h : Mid lo hi a b) (k : Mid lo hi b c) : Mid lo hi a c :=
  ⟨k.os.trans h.os, k.tape.trans h.tape, k.output.trans h.output, Nat.le_trans h.size k.size, fun i hi ho => (k.block i (Nat.lt_of_lt_of_le hi h.size) ho).trans (h.block i hi ho)⟩
theorem Mid.set_ {lo hi : Nat} {a w : World} (h : Mid lo hi a w) {g : Nat} (h1 : lo ≤ g) (h2 : g < hi) (i : Nat) (u : Value) : Mid lo hi a (w.setCell ⟨g, i, none⟩ u) :=
  ⟨h.os, h.tape, h.output, by simpa [World.setCell] using h.size, fun j hj ho => (Below.heap_setCell w ⟨g, i, none⟩ u j (by
    rintro rfl
    rcases ho with ho | ho
    · exact absurd h1 (by show ¬ lo ≤ j; omega)
    · exact absurd h2 (by show ¬ j < hi; omega))).trans (h.block j hj ho)⟩
theorem Mid.grown {lo hi : Nat} {a w w' : World} (h : Mid lo hi a w) {g : Nat} (hg : w.grownBy w' (some g)) (h1 : lo ≤ g) (h2 : g < hi) : Mid lo hi a w' :=
  ⟨hg.os.trans h.os, hg.tape.trans h.tape, hg.output.trans h.output, Nat.le_trans h.size hg.size, fun j hj ho => (hg.block j (Nat.lt_of_lt_of_le hj h.size) (fun e => by injection e with e; omega)).trans (h.block j hj ho)⟩
theorem Mid.below {lo hi : Nat} {w w' : World} (h : Mid lo hi w w') (hl : lo ≤ w.heap.size) : Below lo w w' := ⟨h.os, h.tape, h.output, h.size, fun k hk => h.block k (by omega) (.inl hk)⟩

/-- The reports qs in block g, their votes in blocks gs of their own; the first j of them bear the marks from k on. -/
structure MkQ (w : World) (g : Nat) (gs : Nat → Nat) (cur : Array Value) (qs : List Pp) (k : Int) (j : Nat) : Prop where
  blk : Blk w g 28 cur
  size : qs.length * 4 ≤ cur.size
  votes : ∀ i, i < qs.length → cur[i * 4 + 3]? = some (.slice (qs.getD i zP).A (qs.getD i zP).r.vs.length (qs.getD i zP).c)
  own : ∀ i, i < qs.length → 0 < (qs.getD i zP).r.vs.length → (qs.getD i zP).A = some ⟨gs i, 0, none⟩ ∧ ∃ cs, Blk w (gs i) 25 cs ∧ (qs.getD i zP).r.vs.length * 2 ≤ cs.size ∧ (i < j → MK cs (kR qs k i + 3) (qs.getD i zP).r.vs.length)
  head : ∀ i, i < j → cur[i * 4]? = some (.int .i64 (kR qs k i)) ∧ cur[i * 4 + 1]? = some (.int .i64 (kR qs k i + 1)) ∧ cur[i * 4 + 2]? = some (.int .i64 (kR qs k i + 2))
  apart : ∀ i i', i < i' → i' < qs.length → 0 < (qs.getD i zP).r.vs.length → 0 < (qs.getD i' zP).r.vs.length → gs i ≠ gs i'
theorem two_types {w : World} {g g' : Nat} {cs cs' : Array Value} (h : Blk w g 28 cs) (h' : Blk w g' 25 cs') : g' ≠ g := by
  rintro rfl
  unfold Blk at h h'
  rw [h] at h'
  injection h' with h'
  injection h' with _ h' _
  exact absurd h' (by decide)
/-- Where the blocks lie. -/
def InQ (lo hi g : Nat) (gs : Nat → Nat) (qs : List Pp) : Prop := lo ≤ g ∧ g < hi ∧ ∀ i, i < qs.length → 0 < (qs.getD i zP).r.vs.length → lo ≤ gs i ∧ gs i < hi
section
variable {w w' : World} {g lo hi : Nat} {gs : Nat → Nat} {cur : Array Value} {qs : List Pp} {k : Int} {j : Nat}
theorem MkQ.ne (h : MkQ w g gs cur qs k j) {i : Nat} (hi : i < qs.length) (h0 : 0 < (qs.getD i zP).r.vs.length) : gs i ≠ g := by
  obtain ⟨_, cs, hb, _⟩ := h.own i hi h0
  exact two_types h.blk hb
theorem MkQ.move (h : MkQ w g gs cur qs k j) (hq : InQ lo hi g gs qs) (hk : ∀ b, lo ≤ b → b < hi → b < w.heap.size → w'.heap[b]? = w.heap[b]?) : MkQ w' g gs cur qs k j :=
  ⟨(hk g hq.1 hq.2.1 h.blk.lt).trans h.blk, h.size, h.votes, fun i hi h0 => by
    obtain ⟨e, cs, hb, hs, hm⟩ := h.own i hi h0
    exact ⟨e, cs, (hk _ (hq.2.2 i hi h0).1 (hq.2.2 i hi h0).2 hb.lt).trans hb, hs, hm⟩, h.head, h.apart⟩
theorem MkQ.on (h : MkQ w g gs cur qs k j) (hb : Below w.heap.size w w') : MkQ w' g gs cur qs k j :=
  ⟨h.blk.on hb, h.size, h.votes, fun i hi h0 => by
    obtain ⟨e, cs, hb', hs, hm⟩ := h.own i hi h0
    exact ⟨e, cs, hb'.on hb, hs, hm⟩, h.head, h.apart⟩
theorem MkQ.set_ (h : MkQ w g gs cur qs k j) (i : Nat) (u : Value) (hge : j * 4 ≤ i) (h3 : i % 4 ≠ 3) : MkQ (w.setCell ⟨g, i, none⟩ u) g gs (cur.setIfInBounds i u) qs k j :=
  ⟨h.blk.set_ i u, by simpa using h.size, fun i' hi' => by rw [Array.getElem?_setIfInBounds_ne (by omega)]; exact h.votes i' hi', fun i' hi' h0 => by
    obtain ⟨e, cs, hb', hs, hm⟩ := h.own i' hi' h0
    exact ⟨e, cs, hb'.far (h.ne hi' h0) u, hs, hm⟩, fun i' hi' => by
    rw [Array.getElem?_setIfInBounds_ne (by omega), Array.getElem?_setIfInBounds_ne (by omega), Array.getElem?_setIfInBounds_ne (by omega)]; exact h.head i' hi', h.apart⟩
/-- Report j marked, its votes not yet. -/
def hd3 (cur : Array Value) (j : Nat) (x : Int) : Array Value := ((cur.setIfInBounds (j * 4) (.int .i64 x)).setIfInBounds (j * 4 + 1) (.int .i64 (x + 1))).setIfInBounds (j * 4 + 1 + 1) (.int .i64 (x + 1 + 1))
def wd3 (w : World) (g j : Nat) (x : Int) : World := ((w.setCell ⟨g, j * 4, none⟩ (.int .i64 x)).setCell ⟨g, j * 4 + 1, none⟩ (.int .i64 (x + 1))).setCell ⟨g, j * 4 + 1 + 1, none⟩ (.int .i64 (x + 1 + 1))
theorem MkQ.hd (h : MkQ w g gs cur qs k j) (x : Int) : MkQ (wd3 w g j x) g gs (hd3 cur j x) qs k j :=
  ((h.set_ (j * 4) _ (by omega) (by omega)).set_ (j * 4 + 1) _ (by omega) (by omega)).set_ (j * 4 + 1 + 1) _ (by omega) (by omega)
theorem hd3_at {x : Int} (hs : j * 4 + 2 < cur.size) : (hd3 cur j x)[j * 4]? = some (.int .i64 x) ∧ (hd3 cur j x)[j * 4 + 1]? = some (.int .i64 (x + 1)) ∧ (hd3 cur j x)[j * 4 + 2]? = some (.int .i64 (x + 2)) := by
  unfold hd3
  rw [show x + 1 + 1 = x + 2 by omega, show j * 4 + 1 + 1 = j * 4 + 2 from rfl]
  refine ⟨?_, ?_, ?_⟩
  · rw [Array.getElem?_setIfInBounds_ne (by omega), Array.getElem?_setIfInBounds_ne (by omega), Array.getElem?_setIfInBounds_self_of_lt (by omega)]
  · rw [Array.getElem?_setIfInBounds_ne (by omega), Array.getElem?_setIfInBounds_self_of_lt (by simp; omega)]
  · rw [Array.getElem?_setIfInBounds_self_of_lt (by simp; omega)]
theorem MkQ.step (h : MkQ w g gs cur qs k j) (hj : j < qs.length) (hat : cur[j * 4]? = some (.int .i64 (kR qs k j)) ∧ cur[j * 4 + 1]? = some (.int .i64 (kR qs k j + 1)) ∧ cur[j * 4 + 2]? = some (.int .i64 (kR qs k j + 2)))
    (hv : 0 < (qs.getD j zP).r.vs.length → ∃ cs, Blk w' (gs j) 25 cs ∧ (qs.getD j zP).r.vs.length * 2 ≤ cs.size ∧ MK cs (kR qs k j + 3) (qs.getD j zP).r.vs.length) (hg : w.grownBy w' (some (gs j))) (h0 : (qs.getD j zP).r.vs.length = 0 → w = w') :
    MkQ w' g gs cur qs k (j + 1) := by
  have hgn : ∀ b, b < w.heap.size → (0 < (qs.getD j zP).r.vs.length → b ≠ gs j) → w'.heap[b]? = w.heap[b]? := fun b hb hne => by
    by_cases e : (qs.getD j zP).r.vs.length = 0
    · rw [h0 e]
    · exact hg.block b hb (fun e2 => by injection e2 with e2; exact hne (by omega) e2)
  refine ⟨(hgn g h.blk.lt (fun hp e => h.ne hj hp e.symm)).trans h.blk, h.size, h.votes, fun i hi h1 => ?_, fun i hi => ?_, h.apart⟩
  · by_cases e : i = j
    · subst e
      obtain ⟨cs, hb, hs, hm⟩ := hv h1
      exact ⟨(h.own i hi h1).1, cs, hb, hs, fun _ => hm⟩
    · obtain ⟨e1, cs, hb, hs, hm⟩ := h.own i hi h1
      refine ⟨e1, cs, (hgn _ hb.lt (fun hp e2 => ?_)).trans hb, hs, fun hi2 => hm (by omega)⟩
      rcases Nat.lt_or_gt_of_ne e with hlt | hgt
      · exact h.apart i j hlt hj h1 hp e2
      · exact h.apart j i hgt hi hp h1 e2.symm
  · by_cases e : i = j
    · subst e; exact hat
    · exact h.head i (by omega)
end
set_option maxHeartbeats 1600000 in
theorem markReportS_any (lo hi g c : Nat) (gs : Nat → Nat) (cur : Array Value) (qs : List Pp) (k : Int) (w : World) (h : MkQ w g gs cur qs k 0) (hq : InQ lo hi g gs qs) (hn : qs.length ≤ 1048576) (hv : ∀ i, i < qs.length → (qs.getD i zP).r.vs.length ≤ 1048576) (h0 : 0 ≤ k) (h1 : kR qs k qs.length ≤ 16777216) :
    Calls Try.prog 33 #[.slice (some ⟨g, 0, none⟩) qs.length c, .int .i64 k] w fun e w' => e = .returned (.int .i64 (kR qs k qs.length)) ∧ (∃ cur', MkQ w' g gs cur' qs k qs.length) ∧ Mid lo hi w w' := by
  have HLE := Lib.hid (fun i => @kR_le qs k i qs.length)
  have HGE := Lib.hid (kR_ge qs k)
  have HSU := Lib.hid (kR_succ qs k)
  obtain ⟨n, hvn⟩ : ∃ n, qs.length = n := ⟨_, rfl⟩
  rw [hvn] at hn hv h1 HLE ⊢
  have HVL := Lib.hid hv; clear hv
  have HV := Lib.hid hvn; clear hvn
  have HQ := Lib.hid hq; clear hq
  have HN := Lib.hid h1; clear h1
  have H0 := Lib.hid h; clear h
  have HZ := Lib.hid (kR_zero qs k)
  go_enter Try.func33, Try.ntmps33
  go_wp2
  go_loopw [1, 5] (fun kk i wr => ∃ (j : Nat) (cu : Array Value), j ≤ n ∧ i = .int .i64 j ∧ kk = .int .i64 (kR qs k j) ∧ Hid (MkQ wr g gs cu qs k j) ∧ Mid lo hi w wr) (fun _ i _ => n - (intOf i).toNat)
  case atStart => exact ⟨0, cur, Nat.zero_le _, rfl, by rw [HZ.out], H0.out, Mid.refl _ _ _⟩
  case round =>
    clear H0
    obtain ⟨j, cu, hj, rfl, rfl, hmk, hmid⟩ := hrel
    by_cases hlt : j < n
    · have hjl : j < qs.length := by rw [HV.out]; exact hlt
      obtain ⟨x, hx⟩ : ∃ x, kR qs k j = x := ⟨_, rfl⟩
      have hx0 : 0 ≤ x := by have := HGE.out j; omega
      have hx1 : x + 3 ≤ 16777216 := by have h1 := HLE.out (j + 1) (by omega); have h2 := HN.out; have h3 := HSU.out j; omega
      have hblk := hmk.out.blk
      have hsz := hmk.out.size
      rw [HV.out] at hsz
      obtain ⟨⟨⟨f, vv, xx, vs⟩, A', c'⟩, hu⟩ : ∃ u, qs.getD j zP = u := ⟨_, rfl⟩
      have hvl := HVL.out j hlt
      rw [hu] at hvl
      have hvo := hmk.out.votes j hjl
      rw [hu] at hvo
      have hc3 := (hblk.cell (j * 4 + 3)).trans hvo
      have hw3 := hmk.out.hd x
      have HW3 := Lib.hid hw3
      have hown := hw3.own j hjl
      rw [hu] at hown
      have HCALL := Lib.hid (markV_any A' vs.length c' (gs j) 25 (x + 1 + 1 + 1) (wd3 wr g j x) (fun hp => ⟨(hown hp).1, (hown hp).2.imp fun cs h => ⟨h.1, h.2.1⟩⟩) hvl (by omega) (by omega))
      obtain ⟨y0, hy0⟩ : ∃ y, cu[j * 4]? = some y := ⟨_, Array.getElem?_eq_getElem (by omega)⟩
      obtain ⟨y1, hy1⟩ : ∃ y, cu[j * 4 + 1]? = some y := ⟨_, Array.getElem?_eq_getElem (by omega)⟩
      obtain ⟨y2, hy2⟩ : ∃ y, cu[j * 4 + 2]? = some y := ⟨_, Array.getElem?_eq_getElem (by omega)⟩
      have hc0 := (hblk.cell (j * 4)).trans hy0
      have hc1 := (hblk.cell (j * 4 + 1)).trans hy1
      have hc2 := (hblk.cell (j * 4 + 2)).trans hy2
      have hf0 := hblk.frozen (j * 4)
      have hf1 := hblk.frozen (j * 4 + 1)
      have hf2 := hblk.frozen (j * 4 + 2)
      have HAT := Lib.hid (hd3_at (x := x) (show j * 4 + 2 < cu.size by omega))
      have hin := HQ.out
      have hm3 := Lib.hid (((hmid.set_ hin.1 hin.2.1 (j * 4) (.int .i64 x)).set_ hin.1 hin.2.1 (j * 4 + 1) (.int .i64 (x + 1))).set_ hin.1 hin.2.1 (j * 4 + 1 + 1) (.int .i64 (x + 1 + 1)))
      have HX := Lib.hid hx
      have HU := Lib.hid hu
      have hsu := HSU.out j
      rw [hx, hu] at hsu
      have HSJ := Lib.hid hsu
      rw [hx]
      clear hx hu hvo hown hy0 hy1 hy2 hin hw3 hmk hsu hblk
      go_wp2_with (go_at_call 68; go_loud (refine (HCALL.out).mono ?_); rintro e w2 ⟨rfl, hv2, hg2, hn2⟩)
      rw [show x + 1 + 1 + 1 = x + 3 by omega] at hv2
      have hst := HW3.out.step (w' := w2) hjl (by rw [HX.out]; exact HAT.out) (by rw [HU.out, HX.out]; exact hv2) hg2 (by rw [HU.out]; exact hn2)
      have HST := Lib.hid hst
      have hm4 : Mid lo hi w w2 := by
        by_cases e0 : vs.length = 0
        · rw [← hn2 e0]; exact hm3.out
        · have h5 := HQ.out.2.2 j hjl (by rw [HU.out]; show 0 < vs.length; omega)
          exact hm3.out.grown hg2 h5.1 h5.2
      clear hst hv2 hg2 hn2
      go_roundw
      case rel => exact ⟨j + 1, _, by omega, by go_num, by rw [HSJ.out]; congr 1; omega, HST.out, hm4⟩
      case measure => simp [intOf]; omega
    · have hjn : j = n := by omega
      subst hjn
      go_wp2
      go_ret
      exact ⟨rfl, ⟨cu, hmk.out⟩, hmid⟩
set_option maxHeartbeats 1600000 in
theorem heldReportS_any (g c : Nat) (gs : Nat → Nat) (cur : Array Value) (qs : List Pp) (k : Int) (w : World) (h : MkQ w g gs cur qs k qs.length) (hn : qs.length ≤ 1048576) (hv : ∀ i, i < qs.length → (qs.getD i zP).r.vs.length ≤ 1048576) (h0 : 0 ≤ k) (h1 : kR qs k qs.length ≤ 16777216) :
    Calls Try.prog 35 #[.slice (some ⟨g, 0, none⟩) qs.length c, .int .i64 k] w fun e w' => e = .returned (.int .i64 (kR qs k qs.length)) ∧ w = w' := by
  have HLE := Lib.hid (fun i => @kR_le qs k i qs.length)
  have HGE := Lib.hid (kR_ge qs k)
  have HSU := Lib.hid (kR_succ qs k)
  obtain ⟨n, hvn⟩ : ∃ n, qs.length = n := ⟨_, rfl⟩
  have HL := Lib.hid (fun i (hi : i < n) => show i < qs.length by omega)
  rw [hvn] at hn hv h1 HLE h ⊢
  have HVL := Lib.hid hv; clear hv
  have HV := Lib.hid hvn; clear hvn
  have HN := Lib.hid h1; clear h1
  have H0 := Lib.hid h; clear h
  have HZ := Lib.hid (kR_zero qs k)
  have hne : ∀ i : Int, (i != i) = false := fun i => by simp
  go_enter Try.func35, Try.ntmps35
  go_wp2
  go_loop [1, 5] (fun kk i => ∃ (j : Nat), j ≤ n ∧ i = .int .i64 j ∧ kk = .int .i64 (kR qs k j)) (fun _ i => n - (intOf i).toNat)
  case atStart => exact ⟨0, Nat.zero_le _, rfl, by rw [HZ.out]⟩
  case round =>
    obtain ⟨j, hj, rfl, rfl⟩ := hrel
    by_cases hlt : j < n
    · have hjl := HL.out j hlt
      obtain ⟨x, hx⟩ : ∃ x, kR qs k j = x := ⟨_, rfl⟩
      have hx0 : 0 ≤ x := by have := HGE.out j; omega
      have hx1 : x + 3 ≤ 16777216 := by have h1 := HLE.out (j + 1) (by omega); have h2 := HN.out; have h3 := HSU.out j; omega
      have hblk := H0.out.blk
      have hhd := H0.out.head j hlt
      obtain ⟨⟨⟨f, vv, xx, vs⟩, A', c'⟩, hu⟩ : ∃ u, qs.getD j zP = u := ⟨_, rfl⟩
      have hvl := HVL.out j hlt
      rw [hu] at hvl
      have hvo := H0.out.votes j hjl
      rw [hu] at hvo
      rw [hx, show x + 2 = x + 1 + 1 by omega] at hhd
      have hc3 := (hblk.cell (j * 4 + 3)).trans hvo
      have hc0 := (hblk.cell (j * 4)).trans hhd.1
      have hc1 := (hblk.cell (j * 4 + 1)).trans hhd.2.1
      have hc2 := (hblk.cell (j * 4 + 2)).trans hhd.2.2
      have hown := H0.out.own j hjl
      rw [hu, hx, show x + 3 = x + 1 + 1 + 1 by omega] at hown
      have HCALL := Lib.hid (heldV_any A' vs.length c' (gs j) 25 (x + 1 + 1 + 1) w (fun hp => ⟨(hown hp).1, (hown hp).2.imp fun cs h => ⟨h.1, h.2.2 hlt⟩⟩) hvl (by omega) (by omega))
      have hsu := HSU.out j
      rw [hx, hu] at hsu
      have HSJ := Lib.hid hsu
      have hend : decide (x + 1 + 1 + 1 + 2 * (vs.length : Int) < 0) = false := by simp; omega
      rw [hx]
      clear hx hu hvo hown hsu hblk hhd
      go_wp2_with (go_at_call 69; go_loud (refine (HCALL.out).mono ?_); rintro e w2 ⟨rfl, rfl⟩)
      go_round
      case rel => exact ⟨j + 1, by omega, by go_num, by rw [HSJ.out]; congr 1; omega⟩
      case measure => simp [intOf]; omega
    · have hjn : j = n := by omega
      subst hjn
      go_wp2
      go_ret
      exact ⟨rfl, rfl⟩
/-- What toReportS hands back bears marks. -/
theorem MkQ.of_cpd {w : World} {g n : Nat} {cs : Array Value} {ps qs : List Pp} (hk : Blk w g 28 cs) (h : Cpd w g n cs ps qs n) (k : Int) : ∃ gs, MkQ w g gs cs qs k 0 ∧ InQ g w.heap.size g gs qs := by
  obtain ⟨h1, h2, h3, gs, h4, h5⟩ := h
  refine ⟨gs, ⟨hk, by have := h3.1; omega, fun i hi => (h3.2 i (by omega)).2.2.2, fun i hi h0 => ?_, fun i hi => absurd hi (by omega), fun i j hij hj _ _ => by have := h5 i j hij hj; omega⟩, Nat.le_refl _, hk.lt, fun i hi _ => ?_⟩
  · obtain ⟨a1, a2, a3, cv, a4, a5⟩ := h4 i hi
    exact ⟨a2, cv, a4, by have := a5.1; omega, fun h => absurd h (by omega)⟩
  · obtain ⟨a1, a2, a3, cv, a4, a5⟩ := h4 i hi
    exact ⟨by omega, a4.lt⟩
theorem oi_mid {lo hi : Nat} {w w' : World} {t base : Nat} {A : Option Addr} {xs : List Int} (h : OI w t base A xs) (hm : Mid lo hi w w') (ho : ∀ g', A = some ⟨g', 0, none⟩ → g' < lo ∨ hi ≤ g') : OI w' t base A xs := by
  rcases h with ⟨rfl, rfl⟩ | ⟨g', cur, rfl, hb, hk, hp⟩
  · exact OI.nil_
  · exact .inr ⟨g', cur, rfl, hb, (hm.block g' hk.lt (ho g' rfl)).trans hk, hp⟩
end Go.Proofs.Ytcfjmhebhhekbaa.V
