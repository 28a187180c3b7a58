/-
  What the helpers of the laws do with votes: contracts of toVote, eqVote and szVoteS. No statement is proved here.
-/
import Derived.Test.YtfdfjmibjnmhpaaChecked
import Derived.Test.YtfdfjmibjnmhpaaBase
import Derived.StillTailTactics
set_option linter.unusedVariables false
set_option maxRecDepth 100000
namespace Go.Proofs.Ytfdfjmibjnmhpaa.V
open Go.RowKit Go.Proofs.Ytfdfjmibjnmhpaa.B

theorem ret_bool {a b : Bool} (h : a = b) : Ending.returned (.bool a) = .returned (.bool b) := by rw [h]

theorem toVote_any (a b : Int) (w : World) :
    Calls Try.prog 39 #[.agg #[.int .i64 a, .int .i64 b]] w fun e w' => e = .returned (.agg #[.int .i64 a, .int .i64 b]) ∧ Below w.heap.size w w' := by
  go_enter Try.func39, Try.ntmps39
  go_wp2
  refine bodyPost_ret (v := .agg #[.int .i64 a, .int .i64 b]) (by simp [results, Try.results39, go_sem]) rfl ⟨rfl, ?_⟩
  repeat (first | exact Below.refl _ _ | refine Below.alloc ?_ (by simp <;> omega) _)

theorem eqVote_any (a b c d : Int) (w : World) :
    Calls Try.prog 45 #[.agg #[.int .i64 a, .int .i64 b], .agg #[.int .i64 c, .int .i64 d]] w fun e w' => e = .returned (.bool (decide (a = c ∧ b = d))) ∧ Below w.heap.size w w' := by
  go_enter Try.func45, Try.ntmps45
  go_wp2
  all_goals go_ret
  all_goals refine ⟨ret_bool ?_, by repeat (first | exact Below.refl _ _ | refine Below.alloc ?_ (by simp) _)⟩
  all_goals simp_all

theorem eqVote_is (q : Bool) (a b c d : Int) (hq : decide (a = c ∧ b = d) = q) (w : World) :
    Calls Try.prog 45 #[.agg #[.int .i64 a, .int .i64 b], .agg #[.int .i64 c, .int .i64 d]] w fun e w' => e = .returned (.bool q) ∧ Below w.heap.size w w' := by
  rw [← hq]; exact eqVote_any a b c d w

theorem sz_any (A : Option Addr) (n c : Nat) (left : Int) (w : World) (hn : n ≤ maxLen) (h0 : 0 ≤ left) (h1 : left ≤ 1048576) :
    Calls Try.prog 33 #[.slice A n c, .int .i64 left] w fun e w' => e = .returned (.int .i64 (if left < n then -1 else left - n)) ∧ w = w' := by
  unfold maxLen at hn
  by_cases h : left < n
  · rw [if_pos h]
    go_enter Try.func33, Try.ntmps33
    go_wp2
    go_ret
    exact ⟨rfl, rfl⟩
  · rw [if_neg h]
    go_enter Try.func33, Try.ntmps33
    go_wp2
    go_ret
    exact ⟨rfl, rfl⟩

theorem infoV : (Try.prog.info? 34).map (fun i => (i.zero, i.size, i.bytes)) = some (some (.agg #[.int .i64 0, .int .i64 0]), 2, 16) := by kernel_rfl

set_option maxHeartbeats 400000 in
theorem toVoteS_any (A : Option Addr) (c : Nat) (vs : List (Int × Int)) (w : World) (hr : Rd w w.heap.size A vs) (hn : vs.length ≤ 1048576) :
    Calls Try.prog 38 #[.slice A vs.length c] w fun e w' => ∃ g cs, e = .returned (.slice (some ⟨g, 0, none⟩) vs.length vs.length) ∧ w.heap.size ≤ g ∧ Blk w' g 34 cs ∧ PC cs vs vs.length ∧ Below w.heap.size w w' := by
  obtain ⟨i0, hi, hz0, hz1, hz2⟩ := info_parts infoV
  have hmk : ∀ u : World, (Instr.makeSlice 33 (.int .i64 (vs.length : Int)) (.int .i64 (vs.length : Int))).run Try.prog u =
      .ok (.slice (some ⟨u.heap.size, 0, none⟩) vs.length vs.length) (u.alloc (.cells (madeCells #[.int .i64 0, .int .i64 0] (vs.length * 2)) 34)) := fun u => by
    have h := run_make_rowN (P := Try.prog) 33 34 i0 (.agg #[.int .i64 0, .int .i64 0]) Try.underlying33 hi hz0 .i64 .i64 vs.length vs.length (Nat.le_refl _) (by rw [hz2]; omega) (by omega) u
    rw [h, hz1]; rfl
  clear hz2 hz1 hz0 hi
  obtain ⟨n, hvn⟩ : ∃ n, vs.length = n := ⟨_, rfl⟩
  rw [hvn] at hn hmk ⊢
  go_enter Try.func38, Try.ntmps38
  go_wp2
  have HV := Lib.hid hvn; clear hvn
  go_loopw [4] (fun i wr => ∃ (k : Nat) (cs : Array Value), k ≤ n ∧ i = .int .i64 k ∧ Blk wr w.heap.size 34 cs ∧ Hid (PC cs vs k) ∧ Below w.heap.size w wr) (fun i _ => n - (intOf i).toNat)
  case atStart => exact ⟨0, _, Nat.zero_le _, rfl, Blk.new _ _ _, PC.zero (by rw [HV.out]; simp [madeCells]), (Below.refl _ _).alloc (Nat.le_refl _) _⟩
  case round =>
    obtain ⟨k, cs, hk, rfl, hblk, hpc, hbel⟩ := hrel
    by_cases hlt : k < n
    · obtain ⟨b, off, rfl, hb, hc⟩ := hr (by rw [HV.out]; omega)
      have h2 := hc k (by rw [HV.out]; omega)
      rw [← hbel.cell (p := ⟨b, off + k * 2, none⟩) hb, ← hbel.cell (p := ⟨b, off + k * 2 + 1, none⟩) hb] at h2
      obtain ⟨hc0, hc1⟩ := h2
      clear hc hr
      have hsz : cs.size = n * 2 := by rw [hpc.out.1, HV.out]
      have hx0 : ∃ x, cs[k * 2]? = some x := ⟨_, Array.getElem?_eq_getElem (by omega)⟩
      have hx1 : ∃ x, cs[k * 2 + 1]? = some x := ⟨_, Array.getElem?_eq_getElem (by omega)⟩
      obtain ⟨x0, hx0⟩ := hx0
      obtain ⟨x1, hx1⟩ := hx1
      have HX0 := Lib.hid hx0
      have HX1 := Lib.hid hx1
      have HP : Hid (PC ((cs.setIfInBounds (k * 2) (.int .i64 (vs.getD k (0, 0)).1)).setIfInBounds (k * 2 + 1) (.int .i64 (vs.getD k (0, 0)).2)) vs (k + 1)) := PC.step hpc.out (by rw [HV.out]; omega)
      clear hsz hx0 hx1 hpc
      generalize vs.getD k (0, 0) = v at *
      obtain ⟨va, vb⟩ := v
      go_wp2_with (go_at_call 39; refine (toVote_any _ _ _).mono ?_; rintro e w1 ⟨rfl, hb1⟩; have hblk1 := hblk.below hb1 hblk.lt; have hf0 := hblk1.frozen (k * 2); have hf1 := hblk1.frozen (k * 2 + 1); have hy0 := (hblk1.cell (k * 2)).trans HX0.out; have hy1 := (hblk1.cell (k * 2 + 1)).trans HX1.out)
      go_roundw
      case rel => 
        refine ⟨k + 1, _, by omega, by go_num, (hblk1.set_ _ _).set_ _ _, HP, ((hbel.trans (hb1.mono hbel.size)).setCell (Nat.le_refl _) _).setCell (Nat.le_refl _) _⟩
      case measure => simp [intOf]; omega
    · go_wp2
      go_ret
      have hkn : k = n := by omega
      subst hkn
      exact ⟨_, cs, rfl, Nat.le_refl _, hblk, hpc.out, hbel⟩

theorem Rd.at_ {w : World} {Bd : Nat} {A : Option Addr} {vs : List (Int × Int)} (h : Rd w Bd A vs) {k : Nat} (hk : k < vs.length) :
    ∃ b off, A = some ⟨b, off, none⟩ ∧ b < Bd ∧ w.cell? ⟨b, off + k * 2, none⟩ = some (.int .i64 (vs.getD k (0, 0)).1) ∧ w.cell? ⟨b, off + k * 2 + 1, none⟩ = some (.int .i64 (vs.getD k (0, 0)).2) := by
  obtain ⟨b, off, rfl, hb, hc⟩ := h (by omega)
  exact ⟨b, off, rfl, hb, hc k hk⟩

set_option maxRecDepth 100000 in
set_option maxHeartbeats 400000 in
theorem eqVoteS_any (A C : Option Addr) (c d : Nat) (vs us : List (Int × Int)) (w : World) (hr : Rd w w.heap.size A vs) (hs : Rd w w.heap.size C us) (hn : vs.length ≤ 1048576) :
    Calls Try.prog 44 #[.slice A vs.length c, .slice C us.length d] w fun e w' => e = .returned (.bool (decide (vs = us))) ∧ Below w.heap.size w w' := by
  by_cases hlen : vs.length = us.length
  · obtain ⟨n, hvn⟩ : ∃ n, vs.length = n := ⟨_, rfl⟩
    have hun : us.length = n := by omega
    rw [hvn] at hn ⊢
    rw [hun] at ⊢
    have HV := Lib.hid hvn; clear hvn
    have HU := Lib.hid hun; clear hun
    clear hlen
    go_enter Try.func44, Try.ntmps44
    go_wp2
    go_loopw [5] (fun i wr => ∃ (k : Nat), k ≤ n ∧ i = .int .i64 k ∧ Hid (∀ j, j < k → vs.getD j (0, 0) = us.getD j (0, 0)) ∧ Below w.heap.size w wr) (fun i _ => n - (intOf i).toNat)
    case atStart => exact ⟨0, Nat.zero_le _, rfl, fun j hj => absurd hj (by omega), Below.refl _ _⟩
    case round =>
      obtain ⟨k, hk, rfl, hall, hbel⟩ := hrel
      by_cases hlt : k < n
      · obtain ⟨b, off, rfl, hb, hc0, hc1⟩ := Rd.at_ (hr.below hbel) (k := k) (by rw [HV.out]; omega)
        obtain ⟨b', off', rfl, hb', hc0', hc1'⟩ := Rd.at_ (hs.below hbel) (k := k) (by rw [HU.out]; omega)
        clear hr hs
        obtain ⟨⟨va, vb⟩, hv⟩ : ∃ v, vs.getD k (0, 0) = v := ⟨_, rfl⟩
        obtain ⟨⟨ua, ub⟩, hu⟩ : ∃ u, us.getD k (0, 0) = u := ⟨_, rfl⟩
        rw [hv] at hc0 hc1
        rw [hu] at hc0' hc1'
        have Hv := Lib.hid hv; clear hv
        have Hu := Lib.hid hu; clear hu
        obtain ⟨q, hq⟩ : ∃ q, decide (va = ua ∧ vb = ub) = q := ⟨_, rfl⟩
        have HQ := Lib.hid hq; clear hq
        go_wp2
        go_still_tail 8, (by kernel_rfl)
        have hbd : Below w.heap.size w wr.drew := hbel.drew
        change wpList _ _ _ _ _ wr.drew
        generalize wr.drew = w2 at *
        rcases q with _ | _
        · go_wp2_with (go_at_call 45; refine (eqVote_is false _ _ _ _ HQ.out _).mono ?_; rintro e w1 ⟨rfl, hb1⟩)
          go_ret
          refine ⟨ret_bool ?_, hbd.trans (hb1.mono hbd.size)⟩
          symm
          rw [decide_eq_false_iff_not]
          intro he
          have h1 := Hv.out
          rw [he, Hu.out] at h1
          have h2 := HQ.out
          simp_all
        · go_wp2_with (go_at_call 45; refine (eqVote_is true _ _ _ _ HQ.out _).mono ?_; rintro e w1 ⟨rfl, hb1⟩)
          go_roundw
          case rel =>
            refine ⟨k + 1, by omega, by go_num, fun j hj => ?_, hbd.trans (hb1.mono hbd.size)⟩
            by_cases e : j = k
            · have h2 := of_decide_eq_true HQ.out
              rw [e, Hv.out, Hu.out, h2.1, h2.2]
            · exact hall.out j (by omega)
          case measure => simp [intOf]; omega
      · go_wp2
        go_ret
        refine ⟨ret_bool ?_, hbel⟩
        symm
        rw [decide_eq_true_iff]
        apply List.ext_getElem (by rw [HV.out, HU.out])
        intro i h1 h2
        have := hall.out i (by have := HV.out; omega)
        simpa [List.getD, List.getElem?_eq_getElem h1, List.getElem?_eq_getElem h2] using this
  · have hne : ((vs.length : Int) != (us.length : Int)) = true := by rw [bne_iff_ne]; omega
    go_enter Try.func44, Try.ntmps44
    go_wp2
    go_ret
    refine ⟨ret_bool ?_, Below.refl _ _⟩
    symm
    rw [decide_eq_false_iff_not]
    exact fun he => hlen (by rw [he])
theorem eqVoteS_same (A C : Option Addr) (c d : Nat) (vs : List (Int × Int)) (w : World) (hr : Rd w w.heap.size A vs) (hs : Rd w w.heap.size C vs) (hn : vs.length ≤ 1048576) :
    Calls Try.prog 44 #[.slice A vs.length c, .slice C vs.length d] w fun e w' => e = .returned (.bool true) ∧ Below w.heap.size w w' := by
  have h := eqVoteS_any A C c d vs vs w hr hs hn
  rwa [decide_eq_true (rfl : vs = vs)] at h

end Go.Proofs.Ytfdfjmibjnmhpaa.V
