/-
  What is chosen, and what the functions on reports that the document lists answer, of the model: contracts. No statement is proved here.
-/
import Derived.Test.YtikhakmddcmbpaaSpecSafe
set_option linter.unusedVariables false
set_option maxRecDepth 100000
namespace Go.Proofs.Ytikhakmddcmbpaa.V
open Go.RowKit Go.Proofs.Ytikhakmddcmbpaa.B

theorem best_step (g : Int → Int) (ok : Int → Bool) (k : Nat) : best g ok (k + 1) = if (best g ok k).2 < g (k + 1 : Nat) && ok (k + 1 : Nat) then (((k + 1 : Nat) : Int), g (k + 1 : Nat)) else best g ok k := rfl
set_option maxHeartbeats 1600000 in
theorem l3choose_no (n view own : Int) (A : Option Addr) (c : Nat) (ps : List Pp) (hs : sizeB n = true) (hw : viewR view = true) (hfr : freeR n (rl ps) = false) (w : World) (hr : RdR w w.heap.size A ps) (hf : Few ps) :
    Calls Try.prog 109 #[.int .i64 n, .int .i64 view, .slice A ps.length c, .int .i64 own] w fun e w' => e = .returned (.tuple #[.int .i64 (best (groundsR n view (rl ps)) (safeR n view (rl ps)) 60).1, .bool (decide (0 < (best (groundsR n view (rl ps)) (safeR n view (rl ps)) 60).1))]) ∧ Below w.heap.size w w' := by
  have HFR := Lib.hid (l3free_any n A c ps hs w hr hf)
  rw [hfr] at HFR
  clear hfr
  have HGR := Lib.hid (fun (val : Int) (W : World) (h : RdR W W.heap.size A ps) => l3grounds_any n view val A c ps hs hw W h hf)
  have HSF := Lib.hid (fun (val : Int) (W : World) (h : RdR W W.heap.size A ps) => l3safe_any n view val A c ps hs hw W h hf)
  have hg9 : ∀ val, groundsR n view (rl ps) val ≤ 9 := fun val => by have := last_lo (groundR n (rl ps) val) view.toNat; unfold viewR at hw; simp at hw; unfold groundsR; omega
  have hg1 : ∀ val, -1 ≤ groundsR n view (rl ps) val := fun val => (last_lo (groundR n (rl ps) val) view.toNat).1
  have HG := Lib.hid (fun val => And.intro (hg1 val) (hg9 val))
  clear hg9 hg1 hs hw
  obtain ⟨g, hg⟩ : ∃ g, groundsR n view (rl ps) = g := ⟨_, rfl⟩
  obtain ⟨ok, hok⟩ : ∃ ok, safeR n view (rl ps) = ok := ⟨_, rfl⟩
  rw [hg] at HGR HG ⊢
  rw [hok] at HSF ⊢
  clear hg hok
  obtain ⟨hn, hv⟩ := hf
  obtain ⟨m, hvm⟩ : ∃ m, ps.length = m := ⟨_, rfl⟩
  rw [hvm] at hn HFR HGR HSF ⊢
  clear hv hvm
  have HB := Lib.hid (fun k => best_step g ok k)
  obtain ⟨⟨ra, rb⟩, hrr⟩ : ∃ r, best g ok 60 = r := ⟨_, rfl⟩
  simp only [hrr]
  have HRR := Lib.hid hrr; clear hrr
  have HR := Lib.hid hr; clear hr
  go_enter Try.func109, Try.ntmps109
  go_wp2_with (go_at_call 107; refine HFR.out.mono ?_; rintro e w1 ⟨rfl, rfl⟩)
  go_loopw [10, 11, 12] (fun a d i wr => ∃ (k : Nat) (x y : Int), k ≤ 60 ∧ i = .int .i64 ((k + 1 : Nat) : Int) ∧ a = .int .i64 x ∧ d = .int .i64 y ∧ Hid (best g ok k = (x, y)) ∧ Below w.heap.size w wr) (fun _ _ i _ => 61 - (intOf i).toNat)
  case atStart => exact ⟨0, 0, -1, by omega, rfl, rfl, rfl, rfl, Below.refl _ _⟩
  case round =>
    obtain ⟨k, x, y, hk, rfl, rfl, rfl, hy, hbel⟩ := hrel
    by_cases hlt : k < 60
    · have hle : (((k + 1 : Nat) : Int) ≤ 60) := by omega
      have hrw : RdR wr wr.heap.size A ps := (HR.out.below hbel).more hbel.size
      have hgr := Lib.hid (HGR.out ((k + 1 : Nat) : Int) wr hrw)
      have hsf := Lib.hid (HSF.out ((k + 1 : Nat) : Int) wr hrw)
      have hst := HB.out k
      rw [hy.out] at hst
      obtain ⟨hg1, hg9⟩ := HG.out ((k + 1 : Nat) : Int)
      obtain ⟨u, hu⟩ : ∃ u, g ((k + 1 : Nat) : Int) = u := ⟨_, rfl⟩
      obtain ⟨s, hs⟩ : ∃ s, ok ((k + 1 : Nat) : Int) = s := ⟨_, rfl⟩
      rw [hu] at hgr hst hg1 hg9
      rw [hs] at hsf hst
      simp only at hst
      have HST := Lib.hid hst
      clear hst hu hs hrw hy
      generalize hkk : ((k + 1 : Nat) : Int) = kk at *
      have HKK := Lib.hid hkk; clear hkk
      have hk0 : 0 ≤ kk := by have := HKK.out; omega
      by_cases hyu : y < u
      · cases s
        · have HX : Hid (best g ok (k + 1) = (x, y)) := by show _ = _; rw [HST.out]; simp
          go_wp2_with (first | (go_at_call 106; refine hgr.out.mono ?_; rintro e w1 ⟨rfl, h1⟩; obtain rfl := h1.symm) | (go_at_call 108; refine hsf.out.mono ?_; rintro e w1 ⟨rfl, hb1⟩))
          go_roundw
          case rel => exact ⟨k + 1, x, y, by omega, by rw [← HKK.out]; go_num, rfl, rfl, HX, hbel.trans (hb1.mono hbel.size)⟩
          case measure => have := HKK.out; simp [intOf]; omega
        · have HX : Hid (best g ok (k + 1) = (kk, u)) := by show _ = _; rw [HST.out]; simp [hyu]
          go_wp2_with (first | (go_at_call 106; refine hgr.out.mono ?_; rintro e w1 ⟨rfl, h1⟩; obtain rfl := h1.symm) | (go_at_call 108; refine hsf.out.mono ?_; rintro e w1 ⟨rfl, hb1⟩))
          go_roundw
          case rel => exact ⟨k + 1, kk, u, by omega, by rw [← HKK.out]; go_num, rfl, rfl, HX, hbel.trans (hb1.mono hbel.size)⟩
          case measure => have := HKK.out; simp [intOf]; omega
      · have HX : Hid (best g ok (k + 1) = (x, y)) := by show _ = _; rw [HST.out]; simp [hyu]
        go_wp2_with (go_at_call 106; refine hgr.out.mono ?_; rintro e w1 ⟨rfl, h1⟩; obtain rfl := h1.symm)
        go_roundw
        case rel => exact ⟨k + 1, x, y, by omega, by rw [← HKK.out]; go_num, rfl, rfl, HX, hbel⟩
        case measure => have := HKK.out; simp [intOf]; omega
    · have hk60 : k = 60 := by omega
      subst hk60
      have hyy := hy.out
      rw [HRR.out] at hyy
      simp only [Prod.mk.injEq] at hyy
      obtain ⟨rfl, rfl⟩ := hyy
      go_wp2
      go_ret2
      exact ⟨rfl, hbel⟩
theorem l3choose_any (n view own : Int) (A : Option Addr) (c : Nat) (ps : List Pp) (hs : sizeB n = true) (hw : viewR view = true) (w : World) (hr : RdR w w.heap.size A ps) (hf : Few ps) :
    Calls Try.prog 109 #[.int .i64 n, .int .i64 view, .slice A ps.length c, .int .i64 own] w fun e w' => e = .returned (.tuple #[.int .i64 (chooseR n view (rl ps) own).1, .bool (chooseR n view (rl ps) own).2]) ∧ Below w.heap.size w w' := by
  unfold chooseR
  rcases hfr : freeR n (rl ps) with _ | _
  · exact l3choose_no n view own A c ps hs hw hfr w hr hf
  · have HFR := Lib.hid (l3free_any n A c ps hs w hr hf)
    rw [hfr] at HFR
    clear hfr
    go_enter Try.func109, Try.ntmps109
    go_wp2_with (go_at_call 107; refine HFR.out.mono ?_; rintro e w1 ⟨rfl, rfl⟩)
    go_ret2
    exact ⟨rfl, Below.refl _ _⟩
end Go.Proofs.Ytikhakmddcmbpaa.V
