/-
  The heap of values: heap.down, Pop, heap.Push and heap.Pop. No statement is proved here.
-/
import Derived.Test.YtfebeafonifpdaaHeap
set_option linter.unusedVariables false
set_option maxRecDepth 100000
namespace Go.Proofs.Ytfebeafonifpdaa.V
open Go.RowKit Go.Proofs.Ytfebeafonifpdaa.B

/-- What down leaves: a heap's box, the row as long, the number at place k as it was. -/
def DownR (base p g m c k : Nat) (z : Int) (w : World) (e : Ending) (w' : World) : Prop :=
  (∃ q, e = .returned (.bool q)) ∧ (∃ ys, ys.length = m ∧ ys.getD k 0 = z ∧ HP base w' p (.slice (some ⟨g, 0, none⟩) m c) ys) ∧ HG base p w w'
set_option maxRecDepth 100000 in
set_option maxHeartbeats 6400000 in
theorem down_any (base p g m c : Nat) (xs : List Int) (hm : xs.length = m) (n : Nat) (hn : n < m) (hm2 : m ≤ 2000001) (w : World) (h : HP base w p (.slice (some ⟨g, 0, none⟩) m c) xs) :
    Calls Try.prog 107 #[.iface 113 (.pointer (some ⟨p, 0, none⟩)), .int .i64 0, .int .i64 n] w (DownR base p g m c n (xs.getD n 0) w) := by
  obtain ⟨z, hz⟩ : ∃ z, xs.getD n 0 = z := ⟨_, rfl⟩
  rw [hz]
  have HZ := Lib.hid hz; clear hz
  have HM := Lib.hid hm; clear hm
  go_enter Try.func107, Try.ntmps107
  go_wp2
  go_loopw [7] (fun iv wr => ∃ (i : Nat) (ys : List Int), iv = .int .i64 i ∧ i ≤ m ∧ Hid (ys.length = m) ∧ Hid (ys.getD n 0 = z) ∧ HP base wr p (.slice (some ⟨g, 0, none⟩) m c) ys ∧ HG base p w wr) (fun iv _ => m - (intOf iv).toNat)
  case atStart => exact ⟨0, xs, rfl, Nat.zero_le _, HM, HZ, h, HG.refl _ _ _⟩
  case round =>
    clear h HZ HM xs
    obtain ⟨i, ys, rfl, hi, hyn, hyz, hst, hG⟩ := hrel
    have m1 := hp_meth "Less" 126 (by kernel_rfl) hst
    obtain ⟨b, hb⟩ : ∃ b : Nat, b = 2 * i := ⟨_, rfl⟩
    obtain ⟨a, ha⟩ : ∃ a : Nat, a = b + 1 := ⟨_, rfl⟩
    obtain ⟨d, hd⟩ : ∃ d : Nat, d = a + 1 := ⟨_, rfl⟩
    have hE1 : 2 * (i : Int) = (b : Int) := by omega
    have hE2 : (b : Int) + 1 = (a : Int) := by omega
    have hE3 : (a : Int) + 1 = (d : Int) := by omega
    have hW1 : IntKind.i64.wrap (b : Int) = (b : Int) := IntWalk.i64_in _ (by omega)
    have hW2 : IntKind.i64.wrap (a : Int) = (a : Int) := IntWalk.i64_in _ (by omega)
    have hW3 : IntKind.i64.wrap (d : Int) = (d : Int) := IntWalk.i64_in _ (by omega)
    have hia : i < a := by omega
    have had : a < d := by omega
    have HB := Lib.hid hb; clear hb
    have HA := Lib.hid ha; clear ha
    have HD := Lib.hid hd; clear hd
    by_cases hlt : a < n
    · have hf1 : decide ((n : Int) ≤ (a : Int)) = false := by simp; omega
      have hf2 : decide ((a : Int) < 0) = false := by first | (simp; done) | (simp; omega)
      by_cases hdn : d < n
      · have hdi : (d : Int) < (n : Int) := by omega
        rcases hl1 : decide (ys.getD d 0 < ys.getD a 0) with _ | _
        · have HL1 := Lib.hid hl1; clear hl1
          have HJM : a < m := by omega
          have HIM : i < m := by omega
          have C1 := Lib.hid (hp_less hst hyn.out (i := d) (j := a) (by omega) (by omega) HL1.out)
          rcases hl2 : decide (ys.getD a 0 < ys.getD i 0) with _ | _
          · have HL2 := Lib.hid hl2; clear hl2
            go_wp2_with (first
              | (go_at_call 126; with_reducible refine C1.out.mono ?_; rintro e w1 ⟨rfl, hst1, hG1⟩; have m2 := hp_meth "Less" 126 (by kernel_rfl) hst1; have C2 := Lib.hid (hp_less hst1 hyn.out (i := a) (j := i) HJM HIM HL2.out))
              | (go_at_call 126; with_reducible refine C2.out.mono ?_; rintro e w2 ⟨rfl, hst2, hG2⟩; have m3 := hp_meth "Swap" 129 (by kernel_rfl) hst2; have C3 := Lib.hid (hp_swap hst2 hyn.out (i := i) (j := a) HIM HJM)))
            refine bodyPost_ret (v := .bool (decide (0 < (i : Int)))) (by simp [results, Try.results107, go_sem]) rfl ?_
            exact ⟨⟨_, rfl⟩, ⟨ys, hyn.out, hyz.out, hst2⟩, (hG.trans hG1).trans hG2⟩
          · have HL2 := Lib.hid hl2; clear hl2
            go_wp2_with (first
              | (go_at_call 126; with_reducible refine C1.out.mono ?_; rintro e w1 ⟨rfl, hst1, hG1⟩; have m2 := hp_meth "Less" 126 (by kernel_rfl) hst1; have C2 := Lib.hid (hp_less hst1 hyn.out (i := a) (j := i) HJM HIM HL2.out))
              | (go_at_call 126; with_reducible refine C2.out.mono ?_; rintro e w2 ⟨rfl, hst2, hG2⟩; have m3 := hp_meth "Swap" 129 (by kernel_rfl) hst2; have C3 := Lib.hid (hp_swap hst2 hyn.out (i := i) (j := a) HIM HJM))
              | (go_at_call 129; with_reducible refine C3.out.mono ?_; rintro e w3 ⟨rfl, hst3, hG3⟩))
            go_roundw
            case rel =>
              refine ⟨a, swapL ys i a, rfl, by omega, by show _ = _; rw [swapL_len]; exact hyn.out, ?_, hst3, ((hG.trans hG1).trans hG2).trans hG3⟩
              show _ = _
              rw [swapL_get ys (by rw [hyn.out]; omega) (by rw [hyn.out]; omega), if_neg (by omega), if_neg (by omega)]
              exact hyz.out
            case measure => simp [intOf]; omega
        · have HL1 := Lib.hid hl1; clear hl1
          have HJM : d < m := by omega
          have HIM : i < m := by omega
          have C1 := Lib.hid (hp_less hst hyn.out (i := d) (j := a) (by omega) (by omega) HL1.out)
          rcases hl2 : decide (ys.getD d 0 < ys.getD i 0) with _ | _
          · have HL2 := Lib.hid hl2; clear hl2
            go_wp2_with (first
              | (go_at_call 126; with_reducible refine C1.out.mono ?_; rintro e w1 ⟨rfl, hst1, hG1⟩; have m2 := hp_meth "Less" 126 (by kernel_rfl) hst1; have C2 := Lib.hid (hp_less hst1 hyn.out (i := d) (j := i) HJM HIM HL2.out))
              | (go_at_call 126; with_reducible refine C2.out.mono ?_; rintro e w2 ⟨rfl, hst2, hG2⟩; have m3 := hp_meth "Swap" 129 (by kernel_rfl) hst2; have C3 := Lib.hid (hp_swap hst2 hyn.out (i := i) (j := d) HIM HJM)))
            refine bodyPost_ret (v := .bool (decide (0 < (i : Int)))) (by simp [results, Try.results107, go_sem]) rfl ?_
            exact ⟨⟨_, rfl⟩, ⟨ys, hyn.out, hyz.out, hst2⟩, (hG.trans hG1).trans hG2⟩
          · have HL2 := Lib.hid hl2; clear hl2
            go_wp2_with (first
              | (go_at_call 126; with_reducible refine C1.out.mono ?_; rintro e w1 ⟨rfl, hst1, hG1⟩; have m2 := hp_meth "Less" 126 (by kernel_rfl) hst1; have C2 := Lib.hid (hp_less hst1 hyn.out (i := d) (j := i) HJM HIM HL2.out))
              | (go_at_call 126; with_reducible refine C2.out.mono ?_; rintro e w2 ⟨rfl, hst2, hG2⟩; have m3 := hp_meth "Swap" 129 (by kernel_rfl) hst2; have C3 := Lib.hid (hp_swap hst2 hyn.out (i := i) (j := d) HIM HJM))
              | (go_at_call 129; with_reducible refine C3.out.mono ?_; rintro e w3 ⟨rfl, hst3, hG3⟩))
            go_roundw
            case rel =>
              refine ⟨d, swapL ys i d, rfl, by omega, by show _ = _; rw [swapL_len]; exact hyn.out, ?_, hst3, ((hG.trans hG1).trans hG2).trans hG3⟩
              show _ = _
              rw [swapL_get ys (by rw [hyn.out]; omega) (by rw [hyn.out]; omega), if_neg (by omega), if_neg (by omega)]
              exact hyz.out
            case measure => simp [intOf]; omega
      · have hf3 : decide ((d : Int) < (n : Int)) = false := by simp; omega
        have HJM : a < m := by omega
        have HIM : i < m := by omega
        rcases hl2 : decide (ys.getD a 0 < ys.getD i 0) with _ | _
        · have HL2 := Lib.hid hl2; clear hl2
          have C2 := Lib.hid (hp_less hst hyn.out (i := a) (j := i) HJM HIM HL2.out)
          go_wp2_with (first
            | (go_at_call 126; with_reducible refine C2.out.mono ?_; rintro e w2 ⟨rfl, hst2, hG2⟩; have m3 := hp_meth "Swap" 129 (by kernel_rfl) hst2; have C3 := Lib.hid (hp_swap hst2 hyn.out (i := i) (j := a) HIM HJM)))
          refine bodyPost_ret (v := .bool (decide (0 < (i : Int)))) (by simp [results, Try.results107, go_sem]) rfl ?_
          exact ⟨⟨_, rfl⟩, ⟨ys, hyn.out, hyz.out, hst2⟩, hG.trans hG2⟩
        · have HL2 := Lib.hid hl2; clear hl2
          have C2 := Lib.hid (hp_less hst hyn.out (i := a) (j := i) HJM HIM HL2.out)
          go_wp2_with (first
            | (go_at_call 126; with_reducible refine C2.out.mono ?_; rintro e w2 ⟨rfl, hst2, hG2⟩; have m3 := hp_meth "Swap" 129 (by kernel_rfl) hst2; have C3 := Lib.hid (hp_swap hst2 hyn.out (i := i) (j := a) HIM HJM))
            | (go_at_call 129; with_reducible refine C3.out.mono ?_; rintro e w3 ⟨rfl, hst3, hG3⟩))
          go_roundw
          case rel =>
            refine ⟨a, swapL ys i a, rfl, by omega, by show _ = _; rw [swapL_len]; exact hyn.out, ?_, hst3, (hG.trans hG2).trans hG3⟩
            show _ = _
            rw [swapL_get ys (by rw [hyn.out]; omega) (by rw [hyn.out]; omega), if_neg (by omega), if_neg (by omega)]
            exact hyz.out
          case measure => simp [intOf]; omega
    · have hn1 : (n : Int) ≤ (a : Int) := by omega
      go_wp2
      refine bodyPost_ret (v := .bool (decide (0 < (i : Int)))) (by simp [results, Try.results107, go_sem]) rfl ?_
      exact ⟨⟨_, rfl⟩, ⟨ys, hyn.out, hyz.out, hst⟩, hG⟩

theorem pop_any (base p g k c : Nat) (xs : List Int) (hm : xs.length = k + 1) (hk : k ≤ 2000000) (w : World) (h : HP base w p (.slice (some ⟨g, 0, none⟩) (k + 1) c) xs) (hc : k ≤ c) :
    Calls Try.prog 127 #[.pointer (some ⟨p, 0, none⟩)] w fun e w' => e = .returned (.iface 3 (.int .i64 (xs.getD k 0))) ∧ HG base p w w' := by
  have ho : w.ownsRow base 3 1 (.slice (some ⟨g, 0, none⟩) (k + 1) c) (k + 1) (ic xs) := by have := h.2.1; rwa [hm] at this
  have r1 := own_cell ho hm k (by omega)
  have rb := h.1.rule
  have fb := fun i => h.1.frozen i
  generalize xs.getD k 0 = z at *
  obtain ⟨m, hmk⟩ : ∃ m, m = k + 1 := ⟨_, rfl⟩
  rw [← hmk] at rb
  have hE : (m : Int) - 1 = (k : Int) := by omega
  have hW : IntKind.i64.wrap (k : Int) = (k : Int) := IntWalk.i64_in _ (by omega)
  have a1 : (0 : Int) ≤ (k : Int) := by omega
  have a2 : (k : Int) < (m : Int) := by omega
  have a3 : k < m := by omega
  have a4 : (k : Int) ≤ (c : Int) := by omega
  clear hmk h ho
  go_enter Try.func127, Try.ntmps127
  go_wp2
  go_ret
  exact ⟨rfl, HG.of_box⟩
set_option maxHeartbeats 3200000 in
theorem hpush_any (base p : Nat) (v : Value) (xs : List Int) (x : Int) (hl : xs.length ≤ 1999999) (w : World) (hb : base ≤ w.heap.size) (h : HP base w p v xs) (hh : IsHeap xs) :
    Calls Try.prog 100 #[.iface 113 (.pointer (some ⟨p, 0, none⟩)), .iface 3 (.int .i64 x)] w fun e w' => e = .returned (.tuple #[]) ∧ (∃ v' ys, ys.length = xs.length + 1 ∧ (∀ y, y ∈ ys ↔ y ∈ xs ∨ y = x) ∧ IsHeap ys ∧ HP base w' p v' ys) ∧ HG base p w w' := by
  have mP : ∀ W : World, (method 248 113 (.pointer (some ⟨p, 0, none⟩)) "Push").run Try.prog W = .ok (128, .pointer (some ⟨p, 0, none⟩)) W := fun _ => by kernel_rfl
  have hp := push_any base p v xs x (by omega) w hb h
  have HPU := Lib.hid hp; clear hp h
  obtain ⟨k, hk⟩ : ∃ k, xs.length = k := ⟨_, rfl⟩
  have hu := up_start hh x
  have hln : (xs ++ [x]).length = k + 1 := by simp [hk]
  have hmem : ∀ y, y ∈ xs ++ [x] ↔ y ∈ xs ∨ y = x := fun y => by simp
  rw [hk] at hu hl ⊢
  have HU := Lib.hid hu; clear hu
  have HLN := Lib.hid hln; clear hln
  have HMEM := Lib.hid hmem; clear hmem hh
  have HK := Lib.hid hk; clear hk
  obtain ⟨m, hmk⟩ : ∃ m, m = k + 1 := ⟨_, rfl⟩
  have hE : (m : Int) - 1 = (k : Int) := by omega
  have hW : IntKind.i64.wrap (k : Int) = (k : Int) := IntWalk.i64_in _ (by omega)
  have HMK := Lib.hid hmk; clear hmk
  go_enter Try.func100, Try.ntmps100
  go_wp2_with (go_at_call 128; refine HPU.out.mono ?_; rintro e w1 ⟨rfl, ⟨v1, hst1⟩, hG1⟩; obtain ⟨g, c, hv1, _⟩ := hp_cell hst1 0 (by rw [HLN.out]; omega); rw [HLN.out, ← HMK.out] at hv1; subst hv1; have m1 := hp_meth "Len" 125 (by kernel_rfl) hst1)
  go_wp2_with (go_at_call 125; refine (len_any _ _ _ _).mono ?_; rintro e w2 ⟨rfl, rfl⟩)
  refine (up_any base p g m c (xs ++ [x]) (by rw [HLN.out, HMK.out]) k (by have := HMK.out; omega) (by have := HMK.out; omega) w2 hst1 HU.out).mono ?_
  rintro e w3 ⟨rfl, ⟨ys, h1, h2, h3, h4⟩, hG3⟩
  go_wp2
  refine bodyPost_end (results_none rfl _ _ _) rfl ⟨rfl, ⟨_, ys, ?_, fun y => (h2 y).trans (HMEM.out y), h3, h4⟩, hG1.trans hG3⟩
  rw [h1, HMK.out]
set_option maxHeartbeats 3200000 in
theorem hpop_any (base p g k c : Nat) (xs : List Int) (hm : xs.length = k + 1) (hk : k ≤ 2000000) (hc : k ≤ c) (w : World) (h : HP base w p (.slice (some ⟨g, 0, none⟩) (k + 1) c) xs) :
    Calls Try.prog 101 #[.iface 113 (.pointer (some ⟨p, 0, none⟩))] w fun e w' => e = .returned (.iface 3 (.int .i64 (xs.getD 0 0))) ∧ HG base p w w' := by
  have mP : ∀ W : World, (method 248 113 (.pointer (some ⟨p, 0, none⟩)) "Pop").run Try.prog W = .ok (127, .pointer (some ⟨p, 0, none⟩)) W := fun _ => by kernel_rfl
  have m1 := hp_meth "Len" 125 (by kernel_rfl) h
  have hsw := hp_swap h hm (i := 0) (j := k) (by omega) (by omega)
  have hz : (swapL xs 0 k).getD k 0 = xs.getD 0 0 := by rw [swapL_get xs (by omega) (by omega), if_pos rfl]
  have hsl : (swapL xs 0 k).length = k + 1 := by rw [swapL_len, hm]
  have m2 := hp_meth "Swap" 129 (by kernel_rfl) h
  obtain ⟨m, hmk⟩ : ∃ m, m = k + 1 := ⟨_, rfl⟩
  rw [← hmk] at h m1 hsw m2 hsl
  have hE : (m : Int) - 1 = (k : Int) := by omega
  have hW : IntKind.i64.wrap (k : Int) = (k : Int) := IntWalk.i64_in _ (by omega)
  have HSW := Lib.hid hsw; clear hsw h
  have HZ := Lib.hid hz; clear hz
  have HSL := Lib.hid hsl; clear hsl hm
  have HMK := Lib.hid hmk; clear hmk
  go_enter Try.func101, Try.ntmps101
  go_wp2_with (first | (go_at_call 125; refine (len_any _ _ _ _).mono ?_; rintro e w1 ⟨rfl, rfl⟩) | (go_at_call 129; refine HSW.out.mono ?_; rintro e w2 ⟨rfl, hst2, hG2⟩))
  refine (down_any base p g m c (swapL xs 0 k) HSL.out k (by have := HMK.out; omega) (by have := HMK.out; omega) w2 hst2).mono ?_
  rintro e w3 ⟨⟨q, rfl⟩, ⟨ys, h1, h2, h3⟩, hG3⟩
  rw [HZ.out] at h2
  have hp := pop_any base p g k c ys (by rw [h1, HMK.out]) hk w3 (by rw [← HMK.out]; exact h3) hc
  rw [h2] at hp
  have HP3 := Lib.hid hp; clear hp h1 h2 h3
  go_wp2_with (go_at_call 127; refine HP3.out.mono ?_; rintro e w4 ⟨rfl, hG4⟩)
  go_ret
  exact ⟨rfl, (hG2.trans hG3).trans hG4⟩
end Go.Proofs.Ytfebeafonifpdaa.V
