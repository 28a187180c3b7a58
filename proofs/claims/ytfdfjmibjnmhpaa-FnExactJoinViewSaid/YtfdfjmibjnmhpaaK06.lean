/-
  What the helpers of the laws do with messages: contracts of szMsg, toMsg and eqMsg. Small steps for the walks of laws: a box and a list kept over a call. What the two functions VotesOk, of the program and of its model, answer: contracts. What VotesOk of the model answers: its contract. What VotesOk of the program answers: its contract. What MsgOk answers, of the model and of the program: contracts. What the program's MsgOk and messageOf answer: contracts. What the program's messageOf and MsgOk answer: contracts. What the program's messageOf and MsgOk answer: contracts. What the program's MsgOk answers: its contract. No statement is proved here.
-/
import Derived.Test.YtfdfjmibjnmhpaaK01
import Derived.Test.YtfdfjmibjnmhpaaK04
import Derived.StillTailTactics
import Derived.IntWalk
import Derived.Deep.RegionWith
set_option linter.unusedVariables false
set_option maxRecDepth 100000
namespace Go.Proofs.Ytfdfjmibjnmhpaa.V
open Go.RowKit Go.Proofs.Ytfdfjmibjnmhpaa.B

theorem szMsg_any (k v x a b : Int) (A : Option Addr) (n c : Nat) (left : Int) (w : World) (hn : n ≤ maxLen) (h0 : 0 ≤ left) (h1 : left ≤ 1048576) :
    Calls Try.prog 24 #[.agg #[.int .i64 k, .int .i64 v, .int .i64 x, .int .i64 a, .int .i64 b, .slice A n c], .int .i64 left] w fun e w' => e = .returned (.int .i64 (if left < n then -1 else left - n)) ∧ Below w.heap.size w w' := by
  by_cases h : left < n
  · have hc : ∀ W, Calls Try.prog 33 #[.slice A n c, .int .i64 left] W fun e w' => e = .returned (.int .i64 (-1)) ∧ W = w' := fun W => by
      have := sz_any A n c left W hn h0 h1
      rwa [if_pos h] at this
    have HC := Lib.hid hc; clear hc
    rw [if_pos h]
    go_enter Try.func24, Try.ntmps24
    go_wp2_with (go_at_call 33; refine (HC.out _).mono ?_; rintro e w1 ⟨rfl, rfl⟩)
    go_ret
    exact ⟨rfl, (Below.refl _ _).alloc (Nat.le_refl _) _⟩
  · have hc : ∀ W, Calls Try.prog 33 #[.slice A n c, .int .i64 left] W fun e w' => e = .returned (.int .i64 (left - n)) ∧ W = w' := fun W => by
      have := sz_any A n c left W hn h0 h1
      rwa [if_neg h] at this
    have HC := Lib.hid hc; clear hc
    rw [if_neg h]
    go_enter Try.func24, Try.ntmps24
    go_wp2_with (go_at_call 33; refine (HC.out _).mono ?_; rintro e w1 ⟨rfl, rfl⟩)
    go_ret
    exact ⟨rfl, (Below.refl _ _).alloc (Nat.le_refl _) _⟩

set_option maxHeartbeats 400000 in
theorem toMsg_any (k v x a b : Int) (A : Option Addr) (c : Nat) (vs : List (Int × Int)) (w : World) (hr : Rd w w.heap.size A vs) (hn : vs.length ≤ 1048576) :
    Calls Try.prog 26 #[.agg #[.int .i64 k, .int .i64 v, .int .i64 x, .int .i64 a, .int .i64 b, .slice A vs.length c]] w fun e w' =>
      ∃ g cs, e = .returned (.agg #[.int .i64 k, .int .i64 v, .int .i64 x, .int .i64 a, .int .i64 b, .slice (some ⟨g, 0, none⟩) vs.length vs.length]) ∧ w.heap.size ≤ g ∧ Blk w' g 34 cs ∧ PC cs vs vs.length ∧ Below w.heap.size w w' := by
  go_enter Try.func26, Try.ntmps26
  go_wp2_with fail
  refine (toVote_any a b _).mono ?_
  rintro e w1 ⟨rfl, hb1⟩
  obtain ⟨hc1, hf1⟩ := bcell hb1
  have hz1 : w.heap.size + 2 < w1.heap.size := by have := hb1.size; simp at this; omega
  have hz1a : w.heap.size + 1 < w1.heap.size := by omega
  have hz1b : w.heap.size < w1.heap.size := by omega
  have hB1 : Below w.heap.size w w1 := Below.trans (by repeat (first | exact Below.refl _ _ | refine Below.alloc ?_ (by simp <;> omega) _ | refine Below.setCell ?_ (by simp <;> omega) _)) (hb1.mono (by simp; omega))
  have hr1 : Rd w1 w1.heap.size A vs := (hr.below hB1).more hB1.size
  clear hb1
  go_wp2_with fail
  refine (toVoteS_any A c vs _ ?_ hn).mono ?_
  · exact (hr.below (by repeat (first | exact hB1 | refine Below.setCell ?_ (by simp <;> omega) _))).more (by simp [World.setCell]; omega)
  rintro e w2 ⟨g, cs, rfl, hg, hk, hp, hb2⟩
  obtain ⟨hc2, hf2⟩ := bcell hb2
  have hz2 : w1.heap.size ≤ w2.heap.size := by have := hb2.size; simpa [World.setCell] using this
  have hz3 : w.heap.size + 2 < w2.heap.size := by omega
  have hz3a : w.heap.size + 1 < w2.heap.size := by omega
  have hz3b : w.heap.size < w2.heap.size := by omega
  have hg3 : w1.heap.size ≤ g := by simpa [World.setCell] using hg
  have hB2 : Below w.heap.size w w2 := Below.trans (by repeat (first | exact hB1 | refine Below.setCell ?_ (by simp <;> omega) _)) (hb2.mono (by simp [World.setCell]; omega))
  clear hb2 hr1 hB1 hg
  go_wp2
  refine bodyPost_ret (v := .agg #[.int .i64 k, .int .i64 v, .int .i64 x, .int .i64 a, .int .i64 b, .slice (some ⟨g, 0, none⟩) vs.length vs.length]) (by simp [results, Try.results26, go_sem, hc1, hc2, hz1a]) rfl ⟨g, cs, rfl, by omega, ?_, hp, ?_⟩
  · iterate 7 refine Blk.far ?_ (by simp; omega) _
    exact hk
  · iterate 7 refine Below.setCell ?_ (by simp <;> omega) _
    exact hB2

set_option maxHeartbeats 400000 in
theorem eqMsg_same (k v x a b : Int) (A C : Option Addr) (c d : Nat) (vs : List (Int × Int)) (w : World) (hr : Rd w w.heap.size A vs) (hs : Rd w w.heap.size C vs) (hn : vs.length ≤ 1048576) :
    Calls Try.prog 15 #[.agg #[.int .i64 k, .int .i64 v, .int .i64 x, .int .i64 a, .int .i64 b, .slice A vs.length c], .agg #[.int .i64 k, .int .i64 v, .int .i64 x, .int .i64 a, .int .i64 b, .slice C vs.length d]] w fun e w' => e = .returned (.bool true) ∧ Below w.heap.size w w' := by
  have hne : ∀ i : Int, (i != i) = false := fun i => by simp
  go_enter Try.func15, Try.ntmps15
  go_wp2_with fail
  refine (eqVote_is true a b a b (by simp) _).mono ?_
  rintro e w1 ⟨rfl, hb1⟩
  obtain ⟨hc1, hf1⟩ := bcell hb1
  have hz1a : w.heap.size + 1 < w1.heap.size := by have := hb1.size; simp at this; omega
  have hz1b : w.heap.size < w1.heap.size := by omega
  have hB1 : Below w.heap.size w w1 := Below.trans (((Below.refl _ _).alloc (Nat.le_refl _) _).alloc (by simp) _) (hb1.mono (by simp; omega))
  have hr1 : Rd w1 w1.heap.size A vs := (hr.below hB1).more hB1.size
  have hs1 : Rd w1 w1.heap.size C vs := (hs.below hB1).more hB1.size
  clear hb1 hr hs
  go_wp2_with fail
  refine (eqVoteS_same A C c d vs _ hr1 hs1 hn).mono ?_
  rintro e w2 ⟨rfl, hb2⟩
  have hB2 : Below w.heap.size w w2 := hB1.trans (hb2.mono hB1.size)
  go_wp2
  go_ret
  exact ⟨rfl, hB2⟩
end Go.Proofs.Ytfdfjmibjnmhpaa.V

namespace Go.Proofs.Ytfdfjmibjnmhpaa.B
open Go.RowKit

theorem Rd.dr {w : World} {A : Option Addr} {vs : List (Int × Int)} (h : Rd w w.heap.size A vs) : Rd w.drew w.drew.heap.size A vs := h
end Go.Proofs.Ytfdfjmibjnmhpaa.B
namespace Go.Proofs.Ytfdfjmibjnmhpaa.V
open Go.RowKit Go.Proofs.Ytfdfjmibjnmhpaa.B
theorem szMsg_big (k v x a b : Int) (A : Option Addr) (c : Nat) (vs : List (Int × Int)) (w : World) (hm : vs.length ≤ maxLen) (hn : (1048576 : Int) < vs.length) :
    Calls Try.prog 24 #[.agg #[.int .i64 k, .int .i64 v, .int .i64 x, .int .i64 a, .int .i64 b, .slice A vs.length c], .int .i64 1048576] w fun e w' => e = .returned (.int .i64 (-1)) ∧ Below w.heap.size w w' := by
  have := szMsg_any k v x a b A vs.length c 1048576 w hm (by omega) (by omega)
  rwa [if_pos (by omega)] at this
theorem szMsg_small (k v x a b : Int) (A : Option Addr) (c : Nat) (vs : List (Int × Int)) (w : World) (hn : vs.length ≤ 1048576) :
    Calls Try.prog 24 #[.agg #[.int .i64 k, .int .i64 v, .int .i64 x, .int .i64 a, .int .i64 b, .slice A vs.length c], .int .i64 1048576] w fun e w' => e = .returned (.int .i64 (1048576 - vs.length)) ∧ Below w.heap.size w w' := by
  have := szMsg_any k v x a b A vs.length c 1048576 w (by unfold maxLen; omega) (by omega) (by omega)
  rwa [if_neg (by omega)] at this
end Go.Proofs.Ytfdfjmibjnmhpaa.V

namespace Go.Proofs.Ytfdfjmibjnmhpaa.V
open Go.RowKit Go.Proofs.Ytfdfjmibjnmhpaa.B

def viewOkB (n : Int) : Bool := decide (0 ≤ n ∧ n ≤ 9)
def valOkB (n : Int) : Bool := decide (1 ≤ n ∧ n ≤ 60)
def goodAt (vs : List (Int × Int)) (below : Int) (i : Nat) : Bool :=
  viewOkB (vs.getD i (0, 0)).1 && valOkB (vs.getD i (0, 0)).2 && decide ((vs.getD i (0, 0)).1 < below) && (decide (i = 0) || decide ((vs.getD (i - 1) (0, 0)).1 < (vs.getD i (0, 0)).1))
def votesOkB (vs : List (Int × Int)) (below : Int) : Bool := (List.range vs.length).all (goodAt vs below)

theorem votesOk_yes {vs : List (Int × Int)} {below : Int} (h : ∀ j, j < vs.length → goodAt vs below j = true) : votesOkB vs below = true := by
  unfold votesOkB
  rw [List.all_eq_true]
  intro j hj
  exact h j (List.mem_range.1 hj)
theorem votesOk_no {vs : List (Int × Int)} {below : Int} {k : Nat} (hk : k < vs.length) (h : goodAt vs below k = false) : votesOkB vs below = false := by
  unfold votesOkB
  rw [List.all_eq_false]
  exact ⟨k, List.mem_range.2 hk, by simp [h]⟩

theorem specView_is (n : Int) (q : Bool) (h : viewOkB n = q) (w : World) : Calls Try.prog 72 #[.int .i64 n] w fun e w' => e = .returned (.bool q) ∧ w' = w := by
  subst h
  unfold viewOkB
  by_cases h1 : 0 ≤ n
  · by_cases h2 : n ≤ 9
    all_goals
      go_enter Try.func72, Try.ntmps72
      go_wp2
      go_ret
      exact ⟨ret_bool (by simp; try omega), rfl⟩
  · go_enter Try.func72, Try.ntmps72
    go_wp2
    go_ret
    exact ⟨ret_bool (by simp; try omega), rfl⟩
theorem specVal_is (n : Int) (q : Bool) (h : valOkB n = q) (w : World) : Calls Try.prog 71 #[.int .i64 n] w fun e w' => e = .returned (.bool q) ∧ w' = w := by
  subst h
  unfold valOkB
  by_cases h1 : 1 ≤ n
  · by_cases h2 : n ≤ 60
    all_goals
      go_enter Try.func71, Try.ntmps71
      go_wp2
      go_ret
      exact ⟨ret_bool (by simp; try omega), rfl⟩
  · go_enter Try.func71, Try.ntmps71
    go_wp2
    go_ret
    exact ⟨ret_bool (by simp; try omega), rfl⟩
theorem implView_is (n : Int) (q : Bool) (h : viewOkB n = q) (w : World) : Calls Try.prog 82 #[.int .i64 n] w fun e w' => e = .returned (.bool q) ∧ w' = w := by
  subst h
  unfold viewOkB
  by_cases h1 : 0 ≤ n
  · by_cases h2 : n ≤ 9
    all_goals
      go_enter Try.func82, Try.ntmps82
      go_wp2
      go_ret
      exact ⟨ret_bool (by simp; try omega), rfl⟩
  · go_enter Try.func82, Try.ntmps82
    go_wp2
    go_ret
    exact ⟨ret_bool (by simp; try omega), rfl⟩
theorem implVal_is (n : Int) (q : Bool) (h : valOkB n = q) (w : World) : Calls Try.prog 81 #[.int .i64 n] w fun e w' => e = .returned (.bool q) ∧ w' = w := by
  subst h
  unfold valOkB
  by_cases h1 : 1 ≤ n
  · by_cases h2 : n ≤ 60
    all_goals
      go_enter Try.func81, Try.ntmps81
      go_wp2
      go_ret
      exact ⟨ret_bool (by simp; try omega), rfl⟩
  · go_enter Try.func81, Try.ntmps81
    go_wp2
    go_ret
    exact ⟨ret_bool (by simp; try omega), rfl⟩

def voteOkB (a b below : Int) : Bool := viewOkB a && decide (a < below) && valOkB b
theorem voteOk_is (a b below : Int) (q : Bool) (h : voteOkB a b below = q) (w : World) :
    Calls Try.prog 107 #[.agg #[.int .i64 a, .int .i64 b], .int .i64 below] w fun e w' => e = .returned (.bool q) ∧ Below w.heap.size w w' := by
  subst h
  unfold voteOkB
  rcases h1 : viewOkB a with _ | _
  · have H1 := Lib.hid h1; clear h1
    go_enter Try.func107, Try.ntmps107
    go_wp2_with (go_at_call 82; refine (implView_is a false H1.out _).mono ?_; rintro e w1 ⟨rfl, rfl⟩)
    go_ret
    exact ⟨ret_bool (by simp), (Below.refl _ _).alloc (Nat.le_refl _) _⟩
  · have H1 := Lib.hid h1; clear h1
    by_cases h2 : a < below
    · rcases h3 : valOkB b with _ | _
      · have H3 := Lib.hid h3; clear h3
        go_enter Try.func107, Try.ntmps107
        go_wp2_with (first | (go_at_call 82; refine (implView_is a true H1.out _).mono ?_; rintro e w1 ⟨rfl, rfl⟩) | (go_at_call 81; refine (implVal_is b false H3.out _).mono ?_; rintro e w1 ⟨rfl, rfl⟩))
        go_ret
        exact ⟨ret_bool (by simp), (Below.refl _ _).alloc (Nat.le_refl _) _⟩
      · have H3 := Lib.hid h3; clear h3
        go_enter Try.func107, Try.ntmps107
        go_wp2_with (first | (go_at_call 82; refine (implView_is a true H1.out _).mono ?_; rintro e w1 ⟨rfl, rfl⟩) | (go_at_call 81; refine (implVal_is b true H3.out _).mono ?_; rintro e w1 ⟨rfl, rfl⟩))
        go_ret
        exact ⟨ret_bool (by simp [h2]), (Below.refl _ _).alloc (Nat.le_refl _) _⟩
    · go_enter Try.func107, Try.ntmps107
      go_wp2_with (go_at_call 82; refine (implView_is a true H1.out _).mono ?_; rintro e w1 ⟨rfl, rfl⟩)
      go_ret
      exact ⟨ret_bool (by simp; omega), (Below.refl _ _).alloc (Nat.le_refl _) _⟩

theorem Below.drewN_ {Bd : Nat} (w : World) (n : Nat) : Below Bd w (w.drewN n) := ⟨rfl, rfl, rfl, Nat.le_refl _, fun _ _ => rfl⟩

theorem Rd.prev {w : World} {Bd b off n : Nat} {c : Nat} {vs : List (Int × Int)} (h : Rd w Bd (some ⟨b, off, none⟩) vs) {k : Nat} (hk : k < vs.length) (h0 : 0 < k) :
    w.cell? ⟨b, off + (k - 1) * 2, none⟩ = some (.int .i64 (vs.getD (k - 1) (0, 0)).1) := by
  obtain ⟨b', off', e, hb, hc⟩ := h (by omega)
  injection e with e
  injection e with e1 e2
  subst e1 e2
  exact (hc (k - 1) (by omega)).1

end Go.Proofs.Ytfdfjmibjnmhpaa.V

namespace Go.Proofs.Ytfdfjmibjnmhpaa.V
open Go.RowKit Go.Proofs.Ytfdfjmibjnmhpaa.B

set_option maxHeartbeats 1000000 in
theorem specVotesOk_any (A : Option Addr) (c : Nat) (vs : List (Int × Int)) (below : Int) (w : World) (hr : Rd w w.heap.size A vs) (hn : vs.length ≤ 1048576) :
    Calls Try.prog 74 #[.slice A vs.length c, .int .i64 below] w fun e w' => e = .returned (.bool (votesOkB vs below)) ∧ Below w.heap.size w w' := by
  obtain ⟨n, hvn⟩ : ∃ n, vs.length = n := ⟨_, rfl⟩
  rw [hvn] at hn ⊢
  have HV := Lib.hid hvn; clear hvn
  go_enter Try.func74, Try.ntmps74
  go_wp2
  go_loopw [5] (fun i wr => ∃ (k : Nat), k ≤ n ∧ i = .int .i64 k ∧ Hid (∀ j, j < k → goodAt vs below j = true) ∧ Below w.heap.size w wr) (fun i _ => n - (intOf i).toNat)
  case atStart => exact ⟨0, Nat.zero_le _, rfl, fun j hj => absurd hj (by omega), Below.refl _ _⟩
  case round =>
    obtain ⟨k, hk, rfl, hall, hbel⟩ := hrel
    by_cases hlt : k < n
    · obtain ⟨b, off, rfl, hb, hc0, hc1⟩ := Rd.at_ (hr.below hbel) (k := k) (by rw [HV.out]; omega)
      have hcp : 0 < k → wr.cell? ⟨b, off + (k - 1) * 2, none⟩ = some (.int .i64 (vs.getD (k - 1) (0, 0)).1) := fun h0 => Rd.prev (n := 0) (c := 0) (hr.below hbel) (by rw [HV.out]; omega) h0
      clear hr
      obtain ⟨⟨va, vb⟩, hv⟩ : ∃ v, vs.getD k (0, 0) = v := ⟨_, rfl⟩
      obtain ⟨⟨pa, pb⟩, hp⟩ : ∃ v, vs.getD (k - 1) (0, 0) = v := ⟨_, rfl⟩
      have hg : goodAt vs below k = (viewOkB va && valOkB vb && decide (va < below) && (decide (k = 0) || decide (pa < va))) := by unfold goodAt; rw [hv, hp]
      have hgood := Lib.hid hg; clear hg
      rw [hv] at hc0 hc1
      rw [hp] at hcp
      clear hv hp
      have C0 := fun x : Lat wr => x.cell hc0
      have C1 := fun x : Lat wr => x.cell hc1
      rcases h1 : viewOkB va with _ | _
      · have H1 := Lib.hid h1; clear h1
        go_wp2
        refine wp_region_lat (by kernel_rfl) (by kernel_rfl) ?_
        repeat (go_big_quiet_step ((go_at_call 72; exact lat_same _ (specView_is va false H1.out _))))
        refine wpQuiet_nil ?_
        rintro _ ⟨⟨w3, hb3⟩, rfl⟩
        clear C0 C1
        go_wp2
        go_ret
        refine ⟨ret_bool ?_, hbel.trans (hb3.mono hbel.size)⟩
        symm
        exact votesOk_no (k := k) (by rw [HV.out]; omega) (by rw [hgood.out]; simp [H1.out])
      have H1 := Lib.hid h1; clear h1
      rcases h2 : valOkB vb with _ | _
      · have H2 := Lib.hid h2; clear h2
        go_wp2
        refine wp_region_lat (by kernel_rfl) (by kernel_rfl) ?_
        repeat (go_big_quiet_step ((first | (go_at_call 72; exact lat_same _ (specView_is va true H1.out _)) | (go_at_call 71; exact lat_same _ (specVal_is vb false H2.out _)))))
        refine wpQuiet_nil ?_
        rintro _ ⟨⟨w3, hb3⟩, rfl⟩
        clear C0 C1
        go_wp2
        go_ret
        refine ⟨ret_bool ?_, hbel.trans (hb3.mono hbel.size)⟩
        symm
        exact votesOk_no (k := k) (by rw [HV.out]; omega) (by rw [hgood.out]; simp [H2.out])
      have H2 := Lib.hid h2; clear h2
      by_cases h3 : va < below
      · have hd3 : decide (below ≤ va) = false := by simp; omega
        by_cases h4 : 0 < k
        · have hcp := hcp h4
          obtain ⟨p, hkp⟩ : ∃ p, k = p + 1 := ⟨k - 1, by omega⟩
          have hE : (k : Int) - 1 = (p : Int) := by omega
          have hW : IntKind.i64.wrap (p : Int) = (p : Int) := IntWalk.i64_in _ (by omega)
          have hcp : wr.cell? ⟨b, off + p * 2, none⟩ = some (.int .i64 pa) := by rw [show p = k - 1 by omega]; exact hcp
          have CP := fun x : Lat wr => x.cell hcp
          have hw4 : (p : Int) < (n : Int) := by omega
          have hw5 : p < n := by omega
          have HKP := Lib.hid hkp; clear hkp
          by_cases h5 : pa < va
          · have hd5 : decide (va ≤ pa) = false := by simp; omega
            go_wp2
            refine wp_region_lat (by kernel_rfl) (by kernel_rfl) ?_
            repeat (go_big_quiet_step ((first | (go_at_call 72; exact lat_same _ (specView_is va true H1.out _)) | (go_at_call 71; exact lat_same _ (specVal_is vb true H2.out _)))))
            refine wpQuiet_nil ?_
            rintro _ ⟨⟨w3, hb3⟩, rfl⟩
            clear C0 C1
            go_wp2
            go_roundw
            case rel =>
              refine ⟨k + 1, by omega, by go_num, fun j hj => ?_, hbel.trans (hb3.mono hbel.size)⟩
              by_cases e : j = k
              · rw [e, hgood.out]; simp [H1.out, H2.out, h3, h5]
              · exact hall.out j (by omega)
            case measure => simp [intOf]; omega
          · have hd5 : decide (va ≤ pa) = true := by simp; omega
            go_wp2
            refine wp_region_lat (by kernel_rfl) (by kernel_rfl) ?_
            repeat (go_big_quiet_step ((first | (go_at_call 72; exact lat_same _ (specView_is va true H1.out _)) | (go_at_call 71; exact lat_same _ (specVal_is vb true H2.out _)))))
            refine wpQuiet_nil ?_
            rintro _ ⟨⟨w3, hb3⟩, rfl⟩
            clear C0 C1
            go_wp2
            go_ret
            refine ⟨ret_bool ?_, hbel.trans (hb3.mono hbel.size)⟩
            symm
            exact votesOk_no (k := k) (by rw [HV.out]; omega) (by rw [hgood.out]; simp [h5]; omega)
        · clear hcp
          have hd : decide ((0 : Int) < (k : Int)) = false := by simp; omega
          go_wp2
          refine wp_region_lat (by kernel_rfl) (by kernel_rfl) ?_
          repeat (go_big_quiet_step ((first | (go_at_call 72; exact lat_same _ (specView_is va true H1.out _)) | (go_at_call 71; exact lat_same _ (specVal_is vb true H2.out _)))))
          refine wpQuiet_nil ?_
          rintro _ ⟨⟨w3, hb3⟩, rfl⟩
          clear C0 C1
          go_wp2
          go_roundw
          case rel =>
            refine ⟨k + 1, by omega, by go_num, fun j hj => ?_, hbel.trans (hb3.mono hbel.size)⟩
            by_cases e : j = k
            · rw [e, hgood.out]; simp [H1.out, H2.out, h3]; omega
            · exact hall.out j (by omega)
          case measure => simp [intOf]; omega
      · have hd3 : decide (below ≤ va) = true := by simp; omega
        go_wp2
        refine wp_region_lat (by kernel_rfl) (by kernel_rfl) ?_
        repeat (go_big_quiet_step ((first | (go_at_call 72; exact lat_same _ (specView_is va true H1.out _)) | (go_at_call 71; exact lat_same _ (specVal_is vb true H2.out _)))))
        refine wpQuiet_nil ?_
        rintro _ ⟨⟨w3, hb3⟩, rfl⟩
        clear C0 C1
        go_wp2
        go_ret
        refine ⟨ret_bool ?_, hbel.trans (hb3.mono hbel.size)⟩
        symm
        exact votesOk_no (k := k) (by rw [HV.out]; omega) (by rw [hgood.out]; simp; omega)
    · go_wp2
      go_ret
      refine ⟨ret_bool ?_, hbel⟩
      symm
      exact votesOk_yes fun j hj => hall.out j (by have := HV.out; omega)
end Go.Proofs.Ytfdfjmibjnmhpaa.V

namespace Go.Proofs.Ytfdfjmibjnmhpaa.V
open Go.RowKit Go.Proofs.Ytfdfjmibjnmhpaa.B

theorem goodAt_vote {vs : List (Int × Int)} {below : Int} {k : Nat} {va vb pa pb : Int} (hv : vs.getD k (0, 0) = (va, vb)) (hp : vs.getD (k - 1) (0, 0) = (pa, pb)) :
    goodAt vs below k = (voteOkB va vb below && (decide (k = 0) || decide (pa < va))) := by
  unfold goodAt voteOkB
  rw [hv, hp]
  cases viewOkB va <;> cases valOkB vb <;> simp

set_option maxHeartbeats 400000 in
theorem implVotesOk_any (A : Option Addr) (c : Nat) (vs : List (Int × Int)) (below : Int) (w : World) (hr : Rd w w.heap.size A vs) (hn : vs.length ≤ 1048576) :
    Calls Try.prog 84 #[.slice A vs.length c, .int .i64 below] w fun e w' => e = .returned (.bool (votesOkB vs below)) ∧ Below w.heap.size w w' := by
  obtain ⟨n, hvn⟩ : ∃ n, vs.length = n := ⟨_, rfl⟩
  rw [hvn] at hn ⊢
  have HV := Lib.hid hvn; clear hvn
  go_enter Try.func84, Try.ntmps84
  go_wp2
  go_loopw [9] (fun i wr => ∃ (k : Nat), k ≤ n ∧ i = .int .i64 k ∧ Hid (∀ j, j < k → goodAt vs below j = true) ∧ Below w.heap.size w wr) (fun i _ => n - (intOf i).toNat)
  case atStart => exact ⟨0, Nat.zero_le _, rfl, fun j hj => absurd hj (by omega), Below.refl _ _⟩
  case round =>
    obtain ⟨k, hk, rfl, hall, hbel⟩ := hrel
    by_cases hlt : k < n
    · obtain ⟨b, off, rfl, hb, hc0, hc1⟩ := Rd.at_ (hr.below hbel) (k := k) (by rw [HV.out]; omega)
      have hcp : 0 < k → wr.cell? ⟨b, off + (k - 1) * 2, none⟩ = some (.int .i64 (vs.getD (k - 1) (0, 0)).1) := fun h0 => Rd.prev (n := 0) (c := 0) (hr.below hbel) (by rw [HV.out]; omega) h0
      clear hr
      obtain ⟨⟨va, vb⟩, hv⟩ : ∃ v, vs.getD k (0, 0) = v := ⟨_, rfl⟩
      obtain ⟨⟨pa, pb⟩, hp⟩ : ∃ v, vs.getD (k - 1) (0, 0) = v := ⟨_, rfl⟩
      have hgood := Lib.hid (goodAt_vote (below := below) hv hp)
      rw [hv] at hc0 hc1
      rw [hp] at hcp
      clear hv hp
      rcases h1 : voteOkB va vb below with _ | _
      · have H1 := Lib.hid h1; clear h1
        go_wp2_with fail
        have hbW := hbel.alloc hbel.size (.cells #[.int .i64 va, .int .i64 vb] 34)
        have c0 : (wr.alloc (.cells #[.int .i64 va, .int .i64 vb] 34)).cell? ⟨wr.heap.size, 0, none⟩ = some (.int .i64 va) := (Blk.new wr 34 #[.int .i64 va, .int .i64 vb]).cell 0
        have c1 : (wr.alloc (.cells #[.int .i64 va, .int .i64 vb] 34)).cell? ⟨wr.heap.size, 1, none⟩ = some (.int .i64 vb) := (Blk.new wr 34 #[.int .i64 va, .int .i64 vb]).cell 1
        clear hc0 hc1 hcp
        generalize wr.alloc (.cells #[.int .i64 va, .int .i64 vb] 34) = W0 at *
        have C0 := fun x : Lat W0 => x.cell c0
        have C1 := fun x : Lat W0 => x.cell c1
        refine wp_region_lat (by kernel_rfl) (by kernel_rfl) ?_
        repeat (go_big_quiet_step ((go_at_call 107; exact lat_call _ (voteOk_is va vb below false H1.out _))))
        refine wpQuiet_nil ?_
        rintro _ ⟨⟨w3, hb3⟩, rfl⟩
        clear C0 C1 c0 c1
        go_wp2
        go_ret
        refine ⟨ret_bool ?_, hbW.trans (hb3.mono hbW.size)⟩
        symm
        exact votesOk_no (k := k) (by rw [HV.out]; omega) (by rw [hgood.out]; simp [H1.out])
      have H1 := Lib.hid h1; clear h1
      by_cases h4 : 0 < k
      · have hcq := hcp h4
        clear hcp
        obtain ⟨p, hkp⟩ : ∃ p, k = p + 1 := ⟨k - 1, by omega⟩
        have hE : (k : Int) - 1 = (p : Int) := by omega
        have hW : IntKind.i64.wrap (p : Int) = (p : Int) := IntWalk.i64_in _ (by omega)
        rw [show k - 1 = p by omega] at hcq
        have hw4 : (p : Int) < (n : Int) := by omega
        have hw5 : p < n := by omega
        have hw6 : (0 : Int) < (k : Int) := by omega
        have HKP := Lib.hid hkp; clear hkp
        have cp : (wr.alloc (.cells #[.int .i64 va, .int .i64 vb] 34)).cell? ⟨b, off + p * 2, none⟩ = some (.int .i64 pa) := (World.cell?_alloc_lt wr _ _ (World.block_lt_of_cell? wr _ hcq)).trans hcq
        go_wp2_with fail
        have hbW := hbel.alloc hbel.size (.cells #[.int .i64 va, .int .i64 vb] 34)
        have c0 : (wr.alloc (.cells #[.int .i64 va, .int .i64 vb] 34)).cell? ⟨wr.heap.size, 0, none⟩ = some (.int .i64 va) := (Blk.new wr 34 #[.int .i64 va, .int .i64 vb]).cell 0
        have c1 : (wr.alloc (.cells #[.int .i64 va, .int .i64 vb] 34)).cell? ⟨wr.heap.size, 1, none⟩ = some (.int .i64 vb) := (Blk.new wr 34 #[.int .i64 va, .int .i64 vb]).cell 1
        clear hc0 hc1 hcq
        generalize wr.alloc (.cells #[.int .i64 va, .int .i64 vb] 34) = W0 at *
        have C0 := fun x : Lat W0 => x.cell c0
        have C1 := fun x : Lat W0 => x.cell c1
        have CP := fun x : Lat W0 => x.cell cp
        by_cases h5 : pa < va
        · refine wp_region_lat (by kernel_rfl) (by kernel_rfl) ?_
          repeat (go_big_quiet_step ((go_at_call 107; exact lat_call _ (voteOk_is va vb below true H1.out _))))
          refine wpQuiet_nil ?_
          rintro _ ⟨⟨w3, hb3⟩, rfl⟩
          clear C0 C1 c0 c1 CP cp
          go_wp2
          go_roundw
          case rel =>
            refine ⟨k + 1, by omega, by go_num, fun j hj => ?_, hbW.trans (hb3.mono hbW.size)⟩
            by_cases e : j = k
            · rw [e, hgood.out]; simp [H1.out, h5]
            · exact hall.out j (by omega)
          case measure => simp [intOf]; omega
        · have h6 : va ≤ pa := by omega
          refine wp_region_lat (by kernel_rfl) (by kernel_rfl) ?_
          repeat (go_big_quiet_step ((go_at_call 107; exact lat_call _ (voteOk_is va vb below true H1.out _))))
          refine wpQuiet_nil ?_
          rintro _ ⟨⟨w3, hb3⟩, rfl⟩
          clear C0 C1 c0 c1 CP cp
          go_wp2
          go_ret
          refine ⟨ret_bool ?_, hbW.trans (hb3.mono hbW.size)⟩
          symm
          exact votesOk_no (k := k) (by rw [HV.out]; omega) (by rw [hgood.out]; simp [H1.out, h5]; omega)
      · have hd : decide ((0 : Int) < (k : Int)) = false := by simp; omega
        go_wp2_with fail
        have hbW := hbel.alloc hbel.size (.cells #[.int .i64 va, .int .i64 vb] 34)
        have c0 : (wr.alloc (.cells #[.int .i64 va, .int .i64 vb] 34)).cell? ⟨wr.heap.size, 0, none⟩ = some (.int .i64 va) := (Blk.new wr 34 #[.int .i64 va, .int .i64 vb]).cell 0
        have c1 : (wr.alloc (.cells #[.int .i64 va, .int .i64 vb] 34)).cell? ⟨wr.heap.size, 1, none⟩ = some (.int .i64 vb) := (Blk.new wr 34 #[.int .i64 va, .int .i64 vb]).cell 1
        clear hc0 hc1 hcp
        generalize wr.alloc (.cells #[.int .i64 va, .int .i64 vb] 34) = W0 at *
        have C0 := fun x : Lat W0 => x.cell c0
        have C1 := fun x : Lat W0 => x.cell c1
        refine wp_region_lat (by kernel_rfl) (by kernel_rfl) ?_
        repeat (go_big_quiet_step ((go_at_call 107; exact lat_call _ (voteOk_is va vb below true H1.out _))))
        refine wpQuiet_nil ?_
        rintro _ ⟨⟨w3, hb3⟩, rfl⟩
        clear C0 C1 c0 c1
        go_wp2
        go_roundw
        case rel =>
          refine ⟨k + 1, by omega, by go_num, fun j hj => ?_, hbW.trans (hb3.mono hbW.size)⟩
          by_cases e : j = k
          · rw [e, hgood.out]; simp [H1.out]; omega
          · exact hall.out j (by omega)
        case measure => simp [intOf]; omega
    · go_wp2
      go_ret
      refine ⟨ret_bool ?_, hbel⟩
      symm
      exact votesOk_yes fun j hj => hall.out j (by have := HV.out; omega)
end Go.Proofs.Ytfdfjmibjnmhpaa.V

namespace Go.Proofs.Ytfdfjmibjnmhpaa.V
open Go.RowKit Go.Proofs.Ytfdfjmibjnmhpaa.B

def lockOkB (a b below : Int) : Bool := decide (b = 0 ∧ a = 0) || (valOkB b && decide (0 ≤ a ∧ a < below))
def msgOkB (k v x a b : Int) (vs : List (Int × Int)) : Bool :=
  decide (0 ≤ k ∧ k ≤ 4) && viewOkB v && (if k = 3 then decide (x = 0 ∧ 1 ≤ v) && votesOkB vs v && lockOkB a b v else valOkB x && decide (a = 0 ∧ b = 0) && decide (vs.length = 0) && (decide (k ≠ 4) || decide (v = 0)))

theorem specVotesOk_is (q : Bool) (A : Option Addr) (c : Nat) (vs : List (Int × Int)) (below : Int) (hq : votesOkB vs below = q) (w : World) (hr : Rd w w.heap.size A vs) (hn : vs.length ≤ 1048576) :
    Calls Try.prog 74 #[.slice A vs.length c, .int .i64 below] w fun e w' => e = .returned (.bool q) ∧ Below w.heap.size w w' := by
  rw [← hq]; exact specVotesOk_any A c vs below w hr hn

set_option maxHeartbeats 1000000 in
theorem specMsgOk_plain (k v x a b : Int) (A : Option Addr) (c : Nat) (vs : List (Int × Int)) (w : World) (hr : Rd w w.heap.size A vs) (hn : vs.length ≤ 1048576) (hk : k ≠ 3) :
    Calls Try.prog 57 #[.agg #[.int .i64 k, .int .i64 v, .int .i64 x, .int .i64 a, .int .i64 b, .slice A vs.length c]] w fun e w' => e = .returned (.bool (msgOkB k v x a b vs)) ∧ Below w.heap.size w w' := by
  obtain ⟨qv, hqv⟩ : ∃ q, viewOkB v = q := ⟨_, rfl⟩
  have HV := Lib.hid hqv; clear hqv
  obtain ⟨qx, hqx⟩ : ∃ q, valOkB x = q := ⟨_, rfl⟩
  have HX := Lib.hid hqx; clear hqx
  have HK := Lib.hid hk
  have hk3 : (k != 3) = true := by rw [bne_iff_ne]; exact hk
  clear hk hr
  cases qv
  · go_enter Try.func57, Try.ntmps57
    go_wp2_with (go_at_call 72; refine (specView_is v _ HV.out _).mono ?_; rintro e w1 ⟨rfl, rfl⟩)
    all_goals go_ret
    all_goals refine ⟨ret_bool ?_, (Below.refl _ _).alloc (Nat.le_refl _) _⟩
    all_goals simp [msgOkB, HV.out]
  cases qx
  · go_enter Try.func57, Try.ntmps57
    go_wp2_with (first | (go_at_call 72; refine (specView_is v _ HV.out _).mono ?_; rintro e w1 ⟨rfl, rfl⟩) | (go_at_call 71; refine (specVal_is x _ HX.out _).mono ?_; rintro e w1 ⟨rfl, rfl⟩))
    all_goals go_ret
    all_goals refine ⟨ret_bool ?_, (Below.refl _ _).alloc (Nat.le_refl _) _⟩
    all_goals simp [msgOkB, HV.out, HX.out, HK.out]
    all_goals (intros; omega)
  · go_enter Try.func57, Try.ntmps57
    go_wp2_with (first | (go_at_call 72; refine (specView_is v _ HV.out _).mono ?_; rintro e w1 ⟨rfl, rfl⟩) | (go_at_call 71; refine (specVal_is x _ HX.out _).mono ?_; rintro e w1 ⟨rfl, rfl⟩))
    all_goals go_ret
    all_goals refine ⟨ret_bool ?_, (Below.refl _ _).alloc (Nat.le_refl _) _⟩
    all_goals simp [msgOkB, HV.out, HX.out, HK.out, *]
    all_goals first | rfl | (intros; omega) | (rw [show valOkB 0 = false from by decide]; simp; omega)

set_option maxHeartbeats 1000000 in
theorem specMsgOk_rep0 (v x a b : Int) (A : Option Addr) (c : Nat) (vs : List (Int × Int)) (w : World) (hr : Rd w w.heap.size A vs) (hn : vs.length ≤ 1048576) (hv : viewOkB v = false) :
    Calls Try.prog 57 #[.agg #[.int .i64 3, .int .i64 v, .int .i64 x, .int .i64 a, .int .i64 b, .slice A vs.length c]] w fun e w' => e = .returned (.bool (msgOkB 3 v x a b vs)) ∧ Below w.heap.size w w' := by
  have HV := Lib.hid hv; clear hv hr
  go_enter Try.func57, Try.ntmps57
  go_wp2_with (go_at_call 72; refine (specView_is v _ HV.out _).mono ?_; rintro e w1 ⟨rfl, rfl⟩)
  all_goals go_ret
  all_goals refine ⟨ret_bool ?_, (Below.refl _ _).alloc (Nat.le_refl _) _⟩
  all_goals simp [msgOkB, HV.out]

set_option maxHeartbeats 1000000 in
theorem specMsgOk_rep1 (v x a b : Int) (A : Option Addr) (c : Nat) (vs : List (Int × Int)) (w : World) (hr : Rd w w.heap.size A vs) (hn : vs.length ≤ 1048576) (hv : viewOkB v = true) (hl : votesOkB vs v = false) :
    Calls Try.prog 57 #[.agg #[.int .i64 3, .int .i64 v, .int .i64 x, .int .i64 a, .int .i64 b, .slice A vs.length c]] w fun e w' => e = .returned (.bool (msgOkB 3 v x a b vs)) ∧ Below w.heap.size w w' := by
  have HV := Lib.hid hv; clear hv
  have HL := Lib.hid hl; clear hl
  have hr0 := fun O => (hr.alloc (Nat.le_refl _) O).more (Bd' := (w.alloc O).heap.size) (by simp)
  have HR := Lib.hid hr0; clear hr0 hr
  go_enter Try.func57, Try.ntmps57
  go_wp2_with (first | (go_at_call 72; refine (specView_is v _ HV.out _).mono ?_; rintro e w1 ⟨rfl, rfl⟩) | (go_at_call 74; refine (specVotesOk_is _ A c vs v HL.out _ (HR.out _) hn).mono ?_; rintro e w1 ⟨rfl, hb1⟩; obtain ⟨hc1, hf1⟩ := bcell hb1; have hz1 : w.heap.size < w1.heap.size := (by have := hb1.size; simp at this; omega); have hB1 : Below w.heap.size w w1 := Below.trans ((Below.refl _ _).alloc (Nat.le_refl _) _) (hb1.mono (by simp)); clear hb1))
  all_goals go_ret
  all_goals refine ⟨ret_bool ?_, by first | exact hB1 | exact (Below.refl _ _).alloc (Nat.le_refl _) _⟩
  all_goals simp [msgOkB, lockOkB, HV.out, HL.out, *]
  all_goals first | rfl | (intros; omega) | (rw [show valOkB 0 = false from by decide]; simp; omega)

set_option maxHeartbeats 1000000 in
theorem specMsgOk_rep2 (v x a b : Int) (A : Option Addr) (c : Nat) (vs : List (Int × Int)) (w : World) (hr : Rd w w.heap.size A vs) (hn : vs.length ≤ 1048576) (hv : viewOkB v = true) (hl : votesOkB vs v = true) (hb : valOkB b = false) :
    Calls Try.prog 57 #[.agg #[.int .i64 3, .int .i64 v, .int .i64 x, .int .i64 a, .int .i64 b, .slice A vs.length c]] w fun e w' => e = .returned (.bool (msgOkB 3 v x a b vs)) ∧ Below w.heap.size w w' := by
  have HV := Lib.hid hv; clear hv
  have HL := Lib.hid hl; clear hl
  have HB := Lib.hid hb; clear hb
  have hr0 := fun O => (hr.alloc (Nat.le_refl _) O).more (Bd' := (w.alloc O).heap.size) (by simp)
  have HR := Lib.hid hr0; clear hr0 hr
  go_enter Try.func57, Try.ntmps57
  go_wp2_with (first | (go_at_call 72; refine (specView_is v _ HV.out _).mono ?_; rintro e w1 ⟨rfl, rfl⟩) | (go_at_call 74; refine (specVotesOk_is _ A c vs v HL.out _ (HR.out _) hn).mono ?_; rintro e w1 ⟨rfl, hb1⟩; obtain ⟨hc1, hf1⟩ := bcell hb1; have hz1 : w.heap.size < w1.heap.size := (by have := hb1.size; simp at this; omega); have hB1 : Below w.heap.size w w1 := Below.trans ((Below.refl _ _).alloc (Nat.le_refl _) _) (hb1.mono (by simp)); clear hb1) | (go_at_call_of 71 (Value.int .i64 b); refine (specVal_is b _ HB.out _).mono ?_; rintro e w2 ⟨rfl, rfl⟩) | (go_at_call_of 71 (Value.int .i64 0); refine (specVal_is 0 false (by decide) _).mono ?_; rintro e w2 ⟨rfl, rfl⟩))
  all_goals go_ret
  all_goals refine ⟨ret_bool ?_, by first | exact hB1 | exact (Below.refl _ _).alloc (Nat.le_refl _) _⟩
  all_goals simp [msgOkB, lockOkB, HV.out, HL.out, HB.out, *]
  all_goals first | rfl | (intros; omega) | (rw [show valOkB 0 = false from by decide]; simp; omega)

set_option maxHeartbeats 1000000 in
theorem specMsgOk_rep3 (v x a b : Int) (A : Option Addr) (c : Nat) (vs : List (Int × Int)) (w : World) (hr : Rd w w.heap.size A vs) (hn : vs.length ≤ 1048576) (hv : viewOkB v = true) (hl : votesOkB vs v = true) (hb : valOkB b = true) :
    Calls Try.prog 57 #[.agg #[.int .i64 3, .int .i64 v, .int .i64 x, .int .i64 a, .int .i64 b, .slice A vs.length c]] w fun e w' => e = .returned (.bool (msgOkB 3 v x a b vs)) ∧ Below w.heap.size w w' := by
  have HV := Lib.hid hv; clear hv
  have HL := Lib.hid hl; clear hl
  have HB := Lib.hid hb; clear hb
  have hr0 := fun O => (hr.alloc (Nat.le_refl _) O).more (Bd' := (w.alloc O).heap.size) (by simp)
  have HR := Lib.hid hr0; clear hr0 hr
  go_enter Try.func57, Try.ntmps57
  go_wp2_with (first | (go_at_call 72; refine (specView_is v _ HV.out _).mono ?_; rintro e w1 ⟨rfl, rfl⟩) | (go_at_call 74; refine (specVotesOk_is _ A c vs v HL.out _ (HR.out _) hn).mono ?_; rintro e w1 ⟨rfl, hb1⟩; obtain ⟨hc1, hf1⟩ := bcell hb1; have hz1 : w.heap.size < w1.heap.size := (by have := hb1.size; simp at this; omega); have hB1 : Below w.heap.size w w1 := Below.trans ((Below.refl _ _).alloc (Nat.le_refl _) _) (hb1.mono (by simp)); clear hb1) | (go_at_call_of 71 (Value.int .i64 b); refine (specVal_is b _ HB.out _).mono ?_; rintro e w2 ⟨rfl, rfl⟩) | (go_at_call_of 71 (Value.int .i64 0); refine (specVal_is 0 false (by decide) _).mono ?_; rintro e w2 ⟨rfl, rfl⟩))
  all_goals go_ret
  all_goals refine ⟨ret_bool ?_, by first | exact hB1 | exact (Below.refl _ _).alloc (Nat.le_refl _) _⟩
  all_goals simp [msgOkB, lockOkB, HV.out, HL.out, HB.out, *]
  all_goals first | rfl | (intros; omega) | (rw [show valOkB 0 = false from by decide]; simp; omega)

theorem specMsgOk_any (k v x a b : Int) (A : Option Addr) (c : Nat) (vs : List (Int × Int)) (w : World) (hr : Rd w w.heap.size A vs) (hn : vs.length ≤ 1048576) :
    Calls Try.prog 57 #[.agg #[.int .i64 k, .int .i64 v, .int .i64 x, .int .i64 a, .int .i64 b, .slice A vs.length c]] w fun e w' => e = .returned (.bool (msgOkB k v x a b vs)) ∧ Below w.heap.size w w' := by
  by_cases hk : k = 3
  · subst hk
    rcases hv : viewOkB v with _ | _
    · exact specMsgOk_rep0 v x a b A c vs w hr hn hv
    rcases hl : votesOkB vs v with _ | _
    · exact specMsgOk_rep1 v x a b A c vs w hr hn hv hl
    rcases hb : valOkB b with _ | _
    · exact specMsgOk_rep2 v x a b A c vs w hr hn hv hl hb
    · exact specMsgOk_rep3 v x a b A c vs w hr hn hv hl hb
  · exact specMsgOk_plain k v x a b A c vs w hr hn hk
theorem specMsgOk_is (q : Bool) (k v x a b : Int) (A : Option Addr) (c : Nat) (vs : List (Int × Int)) (hq : msgOkB k v x a b vs = q) (w : World) (hr : Rd w w.heap.size A vs) (hn : vs.length ≤ 1048576) :
    Calls Try.prog 57 #[.agg #[.int .i64 k, .int .i64 v, .int .i64 x, .int .i64 a, .int .i64 b, .slice A vs.length c]] w fun e w' => e = .returned (.bool q) ∧ Below w.heap.size w w' := by
  rw [← hq]; exact specMsgOk_any k v x a b A c vs w hr hn

end Go.Proofs.Ytfdfjmibjnmhpaa.V

namespace Go.Proofs.Ytfdfjmibjnmhpaa.V
open Go.RowKit Go.Proofs.Ytfdfjmibjnmhpaa.B

theorem castOk_is (q : Bool) (k v x : Int) (hq : (viewOkB v && valOkB x) = q) (w : World) :
    Calls Try.prog 117 #[.agg #[.int .i64 k, .int .i64 v, .int .i64 x]] w fun e w' => e = .returned (.bool q) ∧ Below w.heap.size w w' := by
  subst hq
  obtain ⟨qv, hv⟩ : ∃ q, viewOkB v = q := ⟨_, rfl⟩
  obtain ⟨qx, hx⟩ : ∃ q, valOkB x = q := ⟨_, rfl⟩
  have HV := Lib.hid hv
  have HX := Lib.hid hx
  rw [hv, hx]; clear hv hx
  cases qv <;> cases qx
  all_goals
    go_enter Try.func117, Try.ntmps117
    go_wp2_with (first | (go_at_call 82; refine (implView_is v _ HV.out _).mono ?_; rintro e w1 ⟨rfl, rfl⟩) | (go_at_call 81; refine (implVal_is x _ HX.out _).mono ?_; rintro e w1 ⟨rfl, rfl⟩))
    go_ret
    exact ⟨rfl, (Below.refl _ _).alloc (Nat.le_refl _) _⟩

theorem doneOk_is (q : Bool) (x : Int) (hq : valOkB x = q) (w : World) :
    Calls Try.prog 119 #[.agg #[.int .i64 x]] w fun e w' => e = .returned (.bool q) ∧ Below w.heap.size w w' := by
  have HX := Lib.hid hq; clear hq
  go_enter Try.func119, Try.ntmps119
  go_wp2_with (go_at_call 81; refine (implVal_is x _ HX.out _).mono ?_; rintro e w1 ⟨rfl, rfl⟩)
  go_ret
  exact ⟨rfl, (Below.refl _ _).alloc (Nat.le_refl _) _⟩

theorem lockOk_impl (a b v : Int) : viewOkB v = true → lockOkB a b v = (decide (a = 0 ∧ b = 0) || voteOkB a b v) := by
  intro h
  unfold viewOkB at h
  have h := of_decide_eq_true h
  unfold lockOkB voteOkB viewOkB
  rw [Bool.eq_iff_iff]
  simp only [Bool.or_eq_true, Bool.and_eq_true, decide_eq_true_eq]
  constructor
  · rintro (h1 | ⟨h1, h2⟩)
    · exact .inl ⟨h1.2, h1.1⟩
    · exact .inr ⟨⟨⟨by omega, by omega⟩, by omega⟩, h1⟩
  · rintro (h1 | ⟨⟨h1, h2⟩, h3⟩)
    · exact .inl ⟨h1.2, h1.1⟩
    · exact .inr ⟨h3, by omega, h2⟩

theorem lockOk_is (q : Bool) (a b v : Int) (hq : (decide (a = 0 ∧ b = 0) || voteOkB a b v) = q) (w : World) :
    Calls Try.prog 85 #[.agg #[.int .i64 a, .int .i64 b], .int .i64 v] w fun e w' => e = .returned (.bool q) ∧ Below w.heap.size w w' := by
  subst hq
  obtain ⟨qq, hv⟩ : ∃ q, voteOkB a b v = q := ⟨_, rfl⟩
  have HV := Lib.hid hv
  rw [hv]; clear hv
  by_cases ha : a = 0
  · subst ha
    by_cases hb : b = 0
    · subst hb
      go_enter Try.func85, Try.ntmps85
      go_wp2_with fail
      go_ret
      exact ⟨rfl, ((Below.refl _ _).alloc (Nat.le_refl _) _)⟩
    · have HB := Lib.hid hb
      go_enter Try.func85, Try.ntmps85
      go_wp2_with (go_at_call 107; refine (voteOk_is 0 b v _ HV.out _).mono ?_; rintro e w1 ⟨rfl, hb1⟩)
      go_ret
      exact ⟨ret_bool (by simp [HB.out]), Below.trans ((Below.refl _ _).alloc (Nat.le_refl _) _) (hb1.mono (by simp))⟩
  · have HA := Lib.hid ha
    go_enter Try.func85, Try.ntmps85
    go_wp2_with (go_at_call 107; refine (voteOk_is a b v _ HV.out _).mono ?_; rintro e w1 ⟨rfl, hb1⟩)
    go_ret
    exact ⟨ret_bool (by simp [HA.out]), Below.trans ((Below.refl _ _).alloc (Nat.le_refl _) _) (hb1.mono (by simp))⟩

theorem implVotesOk_is (q : Bool) (A : Option Addr) (c : Nat) (vs : List (Int × Int)) (below : Int) (hq : votesOkB vs below = q) (w : World) (hr : Rd w w.heap.size A vs) (hn : vs.length ≤ 1048576) :
    Calls Try.prog 84 #[.slice A vs.length c, .int .i64 below] w fun e w' => e = .returned (.bool q) ∧ Below w.heap.size w w' := by
  rw [← hq]; exact implVotesOk_any A c vs below w hr hn

def repOkB (v a b : Int) (vs : List (Int × Int)) : Bool := viewOkB v && decide (v ≠ 0) && lockOkB a b v && votesOkB vs v

set_option maxHeartbeats 800000 in
theorem repOk_is (q : Bool) (v a b : Int) (A : Option Addr) (c : Nat) (vs : List (Int × Int)) (hq : repOkB v a b vs = q) (w : World) (hr : Rd w w.heap.size A vs) (hn : vs.length ≤ 1048576) :
    Calls Try.prog 118 #[.agg #[.int .i64 v, .int .i64 a, .int .i64 b, .slice A vs.length c]] w fun e w' => e = .returned (.bool q) ∧ Below w.heap.size w w' := by
  subst hq
  have hl0 := lockOk_impl a b v
  unfold repOkB
  obtain ⟨qv, hv⟩ : ∃ q, viewOkB v = q := ⟨_, rfl⟩
  obtain ⟨qk, hk⟩ : ∃ q, lockOkB a b v = q := ⟨_, rfl⟩
  obtain ⟨ql, hl⟩ : ∃ q, votesOkB vs v = q := ⟨_, rfl⟩
  have HV := Lib.hid hv
  have HL := Lib.hid hl
  have hr0 := fun O => (hr.alloc (Nat.le_refl _) O).more (Bd' := (w.alloc O).heap.size) (by simp)
  have HR := Lib.hid hr0; clear hr0 hr
  rw [hv, hk, hl]
  cases qv
  · clear hv hk hl hl0
    go_enter Try.func118, Try.ntmps118
    go_wp2_with (go_at_call 82; refine (implView_is v _ HV.out _).mono ?_; rintro e w1 ⟨rfl, rfl⟩)
    go_ret
    exact ⟨rfl, ((Below.refl _ _).alloc (Nat.le_refl _) _)⟩
  have hk := (hl0 hv).symm.trans hk
  have HK := Lib.hid hk
  clear hv hk hl hl0
  by_cases h0 : v = 0
  · have h0' : (v != 0) = false := by rw [h0]; rfl
    have H0 := Lib.hid h0; clear h0
    go_enter Try.func118, Try.ntmps118
    go_wp2_with (go_at_call 82; refine (implView_is v _ HV.out _).mono ?_; rintro e w1 ⟨rfl, rfl⟩)
    go_ret
    exact ⟨ret_bool (by simp [H0.out]), ((Below.refl _ _).alloc (Nat.le_refl _) _)⟩
  have h0' : (v != 0) = true := by rw [bne_iff_ne]; exact h0
  have H0 := Lib.hid h0; clear h0
  cases qk <;> cases ql
  all_goals
    go_enter Try.func118, Try.ntmps118
    go_wp2_with (first | (go_at_call 82; refine (implView_is v _ HV.out _).mono ?_; rintro e w1 ⟨rfl, rfl⟩) | (go_at_call 85; refine (lockOk_is _ a b v HK.out _).mono ?_; rintro e w1 ⟨rfl, hb1⟩; obtain ⟨hc1, hf1⟩ := bcell hb1; have hz1 : w.heap.size < w1.heap.size := (by have := hb1.size; simp at this; omega); have hB1 : Below w.heap.size w w1 := Below.trans ((Below.refl _ _).alloc (Nat.le_refl _) _) (hb1.mono (by simp)); have hr1 := (((HR.out _).below hb1).more hb1.size); have HR1 := Lib.hid hr1; clear hr1 hb1) | (go_at_call 84; refine (implVotesOk_is _ A c vs v HL.out _ HR1.out hn).mono ?_; rintro e w2 ⟨rfl, hb2⟩; have hB2 := hB1.trans (hb2.mono hB1.size)))
    go_ret
    exact ⟨ret_bool (by simp [H0.out]), by first | exact hB2 | exact hB1⟩
end Go.Proofs.Ytfdfjmibjnmhpaa.V

namespace Go.Proofs.Ytfdfjmibjnmhpaa.V
open Go.RowKit Go.Proofs.Ytfdfjmibjnmhpaa.B

theorem lat_cell : ∀ (W0 : World) (x : Lat W0) (g i : Nat), g < W0.heap.size → x.w.cell? ⟨g, i, none⟩ = W0.cell? ⟨g, i, none⟩ := fun _ x g i h => x.below.cell (p := ⟨g, i, none⟩) h
theorem below2 (w : World) (o o' : Obj) : Below w.heap.size w ((w.alloc o).alloc o') := ((Below.refl _ _).alloc (Nat.le_refl _) o).alloc (by simp) o'

set_option maxHeartbeats 1600000 in
theorem messageOf_cast (q p : Bool) (k v x a b : Int) (A : Option Addr) (c n : Nat) (hk : k = 0 ∨ k = 1 ∨ k = 2) (hp : decide (a = 0 ∧ b = 0 ∧ n = 0) = p) (hq : (viewOkB v && valOkB x) = q) (w : World) :
    Calls Try.prog 95 #[.agg #[.int .i64 k, .int .i64 v, .int .i64 x, .int .i64 a, .int .i64 b, .slice A n c]] w fun e w' =>
      e = .returned (.tuple #[.iface 163 (.agg #[.int .i64 k, .int .i64 v, .int .i64 x]), .bool (p && q)]) ∧ Below w.heap.size w w' := by
  subst hp
  have LC := lat_cell
  have HQ := Lib.hid hq; clear hq
  by_cases ha : a = 0
  · subst ha
    by_cases hb : b = 0
    · subst hb
      by_cases hn : n = 0
      · subst hn
        rcases hk with rfl | rfl | rfl
        all_goals
          go_enter Try.func95, Try.ntmps95
          go_wp2_with fail
          refine wp_region_lat (by kernel_rfl) (by kernel_rfl) ?_
          repeat (go_big_quiet_step ((go_at_call 117; exact lat_call _ (castOk_is _ _ _ _ HQ.out _))))
          refine wpQuiet_nil ?_
          rintro _ ⟨⟨w3, hb3⟩, rfl⟩
          go_wp2
          go_ret2
          exact ⟨by simp, Below.trans (below2 _ _ _) (hb3.mono (by simp; omega))⟩
      · have hn0 : ((n : Int) == 0) = false := by rw [beq_eq_false_iff_ne]; omega
        have HN := Lib.hid hn; clear hn
        rcases hk with rfl | rfl | rfl
        all_goals
          go_enter Try.func95, Try.ntmps95
          go_wp2_with fail
          refine wp_region_lat (by kernel_rfl) (by kernel_rfl) ?_
          repeat (go_big_quiet_step (fail))
          refine wpQuiet_nil ?_
          rintro _ ⟨⟨w3, hb3⟩, rfl⟩
          go_wp2
          go_ret2
          exact ⟨by simp [HN.out], Below.trans (below2 _ _ _) (hb3.mono (by simp; omega))⟩
    · have HB := Lib.hid hb
      rcases hk with rfl | rfl | rfl
      all_goals
        go_enter Try.func95, Try.ntmps95
        go_wp2_with fail
        refine wp_region_lat (by kernel_rfl) (by kernel_rfl) ?_
        repeat (go_big_quiet_step (fail))
        refine wpQuiet_nil ?_
        rintro _ ⟨⟨w3, hb3⟩, rfl⟩
        go_wp2
        go_ret2
        exact ⟨by simp [HB.out], Below.trans (below2 _ _ _) (hb3.mono (by simp; omega))⟩
  · have HA := Lib.hid ha
    rcases hk with rfl | rfl | rfl
    all_goals
      go_enter Try.func95, Try.ntmps95
      go_wp2_with fail
      refine wp_region_lat (by kernel_rfl) (by kernel_rfl) ?_
      repeat (go_big_quiet_step (fail))
      refine wpQuiet_nil ?_
      rintro _ ⟨⟨w3, hb3⟩, rfl⟩
      go_wp2
      go_ret2
      exact ⟨by simp [HA.out], Below.trans (below2 _ _ _) (hb3.mono (by simp; omega))⟩

end Go.Proofs.Ytfdfjmibjnmhpaa.V

namespace Go.Proofs.Ytfdfjmibjnmhpaa.V
open Go.RowKit Go.Proofs.Ytfdfjmibjnmhpaa.B

set_option maxHeartbeats 1600000 in
theorem messageOf_done (q p : Bool) (v x a b : Int) (A : Option Addr) (c n : Nat) (hp : decide (a = 0 ∧ b = 0 ∧ n = 0 ∧ v = 0) = p) (hq : valOkB x = q) (w : World) :
    Calls Try.prog 95 #[.agg #[.int .i64 4, .int .i64 v, .int .i64 x, .int .i64 a, .int .i64 b, .slice A n c]] w fun e w' =>
      e = .returned (.tuple #[.iface 168 (.agg #[.int .i64 x]), .bool (p && q)]) ∧ Below w.heap.size w w' := by
  subst hp
  have LC := lat_cell
  have HQ := Lib.hid hq; clear hq
  by_cases ha : a = 0
  · subst ha
    by_cases hb : b = 0
    · subst hb
      by_cases hn : n = 0
      · subst hn
        by_cases hv : v = 0
        · subst hv
          go_enter Try.func95, Try.ntmps95
          go_wp2_with fail
          refine wp_region_lat (by kernel_rfl) (by kernel_rfl) ?_
          repeat (go_big_quiet_step ((go_at_call 119; exact lat_call _ (doneOk_is _ _ HQ.out _))))
          refine wpQuiet_nil ?_
          rintro _ ⟨⟨w3, hb3⟩, rfl⟩
          go_wp2
          go_ret2
          exact ⟨by simp, Below.trans (below2 _ _ _) (hb3.mono (by simp; omega))⟩
        · have hv0 : (v == 0) = false := by rw [beq_eq_false_iff_ne]; exact hv
          have HV := Lib.hid hv; clear hv
          go_enter Try.func95, Try.ntmps95
          go_wp2_with fail
          refine wp_region_lat (by kernel_rfl) (by kernel_rfl) ?_
          repeat (go_big_quiet_step (fail))
          refine wpQuiet_nil ?_
          rintro _ ⟨⟨w3, hb3⟩, rfl⟩
          go_wp2
          go_ret2
          exact ⟨by simp [HV.out], Below.trans (below2 _ _ _) (hb3.mono (by simp; omega))⟩
      · have hn0 : ((n : Int) == 0) = false := by rw [beq_eq_false_iff_ne]; omega
        have HN := Lib.hid hn; clear hn
        go_enter Try.func95, Try.ntmps95
        go_wp2_with fail
        refine wp_region_lat (by kernel_rfl) (by kernel_rfl) ?_
        repeat (go_big_quiet_step (fail))
        refine wpQuiet_nil ?_
        rintro _ ⟨⟨w3, hb3⟩, rfl⟩
        go_wp2
        go_ret2
        exact ⟨by simp [HN.out], Below.trans (below2 _ _ _) (hb3.mono (by simp; omega))⟩
    · have HB := Lib.hid hb
      go_enter Try.func95, Try.ntmps95
      go_wp2_with fail
      refine wp_region_lat (by kernel_rfl) (by kernel_rfl) ?_
      repeat (go_big_quiet_step (fail))
      refine wpQuiet_nil ?_
      rintro _ ⟨⟨w3, hb3⟩, rfl⟩
      go_wp2
      go_ret2
      exact ⟨by simp [HB.out], Below.trans (below2 _ _ _) (hb3.mono (by simp; omega))⟩
  · have HA := Lib.hid ha
    go_enter Try.func95, Try.ntmps95
    go_wp2_with fail
    refine wp_region_lat (by kernel_rfl) (by kernel_rfl) ?_
    repeat (go_big_quiet_step (fail))
    refine wpQuiet_nil ?_
    rintro _ ⟨⟨w3, hb3⟩, rfl⟩
    go_wp2
    go_ret2
    exact ⟨by simp [HA.out], Below.trans (below2 _ _ _) (hb3.mono (by simp; omega))⟩

set_option maxHeartbeats 1600000 in
theorem messageOf_rep (q p : Bool) (v x a b : Int) (A : Option Addr) (c : Nat) (vs : List (Int × Int)) (hp : decide (x = 0) = p) (hq : repOkB v a b vs = q) (w : World) (hr : Rd w w.heap.size A vs) (hn : vs.length ≤ 1048576) :
    Calls Try.prog 95 #[.agg #[.int .i64 3, .int .i64 v, .int .i64 x, .int .i64 a, .int .i64 b, .slice A vs.length c]] w fun e w' =>
      e = .returned (.tuple #[.iface 166 (.agg #[.int .i64 v, .int .i64 a, .int .i64 b, .slice A vs.length c]), .bool (p && q)]) ∧ Below w.heap.size w w' := by
  subst hp
  have LC := lat_cell
  have HQ := Lib.hid hq; clear hq
  have hR : ∀ O1 O2 (x : Lat ((w.alloc O1).alloc O2)), Rd x.w x.w.heap.size A vs := fun O1 O2 x => by
    have h := (below2 w O1 O2).trans (x.below.mono (by simp; omega))
    exact (hr.below h).more h.size
  have HR := Lib.hid hR; clear hR hr
  obtain ⟨n, hvn⟩ : ∃ n, vs.length = n := ⟨_, rfl⟩
  by_cases hx : x = 0
  · subst hx
    by_cases ha : a = 0
    · subst ha
      by_cases hb : b = 0
      · subst hb
        clear hvn
        go_enter Try.func95, Try.ntmps95
        go_wp2_with fail
        refine wp_region_lat (by kernel_rfl) (by kernel_rfl) ?_
        repeat (go_big_quiet_step ((go_at_call 118; exact lat_call _ (repOk_is _ _ _ _ A c vs HQ.out _ (HR.out _ _ _) hn))))
        refine wpQuiet_nil ?_
        rintro _ ⟨⟨w3, hb3⟩, rfl⟩
        go_wp2
        go_ret2
        exact ⟨by simp, Below.trans (below2 _ _ _) (hb3.mono (by simp; omega))⟩
      · clear hvn
        go_enter Try.func95, Try.ntmps95
        go_wp2_with fail
        refine wp_region_lat (by kernel_rfl) (by kernel_rfl) ?_
        repeat (go_big_quiet_step ((go_at_call 118; exact lat_call _ (repOk_is _ _ _ _ A c vs HQ.out _ (HR.out _ _ _) hn))))
        refine wpQuiet_nil ?_
        rintro _ ⟨⟨w3, hb3⟩, rfl⟩
        go_wp2
        go_ret2
        exact ⟨by simp, Below.trans (below2 _ _ _) (hb3.mono (by simp; omega))⟩
    · clear hvn
      go_enter Try.func95, Try.ntmps95
      go_wp2_with fail
      refine wp_region_lat (by kernel_rfl) (by kernel_rfl) ?_
      repeat (go_big_quiet_step ((go_at_call 118; exact lat_call _ (repOk_is _ _ _ _ A c vs HQ.out _ (HR.out _ _ _) hn))))
      refine wpQuiet_nil ?_
      rintro _ ⟨⟨w3, hb3⟩, rfl⟩
      go_wp2
      go_ret2
      exact ⟨by simp, Below.trans (below2 _ _ _) (hb3.mono (by simp; omega))⟩
  · have hx0 : (x == 0) = false := by rw [beq_eq_false_iff_ne]; exact hx
    have HX := Lib.hid hx; clear hx
    by_cases ha : a = 0
    · subst ha
      by_cases hb : b = 0
      · subst hb
        clear hvn
        go_enter Try.func95, Try.ntmps95
        go_wp2_with fail
        refine wp_region_lat (by kernel_rfl) (by kernel_rfl) ?_
        repeat (go_big_quiet_step (fail))
        refine wpQuiet_nil ?_
        rintro _ ⟨⟨w3, hb3⟩, rfl⟩
        go_wp2
        go_ret2
        exact ⟨by simp [HX.out], Below.trans (below2 _ _ _) (hb3.mono (by simp; omega))⟩
      · clear hvn
        go_enter Try.func95, Try.ntmps95
        go_wp2_with fail
        refine wp_region_lat (by kernel_rfl) (by kernel_rfl) ?_
        repeat (go_big_quiet_step (fail))
        refine wpQuiet_nil ?_
        rintro _ ⟨⟨w3, hb3⟩, rfl⟩
        go_wp2
        go_ret2
        exact ⟨by simp [HX.out], Below.trans (below2 _ _ _) (hb3.mono (by simp; omega))⟩
    · clear hvn
      go_enter Try.func95, Try.ntmps95
      go_wp2_with fail
      refine wp_region_lat (by kernel_rfl) (by kernel_rfl) ?_
      repeat (go_big_quiet_step (fail))
      refine wpQuiet_nil ?_
      rintro _ ⟨⟨w3, hb3⟩, rfl⟩
      go_wp2
      go_ret2
      exact ⟨by simp [HX.out], Below.trans (below2 _ _ _) (hb3.mono (by simp; omega))⟩

set_option maxHeartbeats 1600000 in
theorem messageOf_none (k v x a b : Int) (A : Option Addr) (c n : Nat) (hk : k < 0 ∨ 4 < k) (w : World) :
    Calls Try.prog 95 #[.agg #[.int .i64 k, .int .i64 v, .int .i64 x, .int .i64 a, .int .i64 b, .slice A n c]] w fun e w' =>
      e = .returned (.tuple #[.nilIface, .bool false]) ∧ Below w.heap.size w w' := by
  have k0 : (k == 0) = false := by rw [beq_eq_false_iff_ne]; omega
  have k1 : (k == 1) = false := by rw [beq_eq_false_iff_ne]; omega
  have k2 : (k == 2) = false := by rw [beq_eq_false_iff_ne]; omega
  have k3 : (k == 3) = false := by rw [beq_eq_false_iff_ne]; omega
  have k4 : (k == 4) = false := by rw [beq_eq_false_iff_ne]; omega
  clear hk
  go_enter Try.func95, Try.ntmps95
  go_wp2
  all_goals go_ret2
  all_goals exact ⟨rfl, (Below.refl _ _).alloc (Nat.le_refl _) _⟩
end Go.Proofs.Ytfdfjmibjnmhpaa.V

namespace Go.Proofs.Ytfdfjmibjnmhpaa.V
open Go.RowKit Go.Proofs.Ytfdfjmibjnmhpaa.B

theorem ok_cast {k v x a b : Int} {vs : List (Int × Int)} (hk : k = 0 ∨ k = 1 ∨ k = 2) : (decide (a = 0 ∧ b = 0 ∧ vs.length = 0) && (viewOkB v && valOkB x)) = msgOkB k v x a b vs := by
  unfold msgOkB
  rw [if_neg (by omega)]
  generalize vs.length = n
  cases viewOkB v <;> cases valOkB x <;> simp <;> rw [Bool.eq_iff_iff] <;> simp <;> omega
theorem ok_done {v x a b : Int} {vs : List (Int × Int)} : (decide (a = 0 ∧ b = 0 ∧ vs.length = 0 ∧ v = 0) && valOkB x) = msgOkB 4 v x a b vs := by
  unfold msgOkB viewOkB
  rw [if_neg (by omega)]
  generalize vs.length = n
  cases valOkB x <;> simp
  rw [Bool.eq_iff_iff]; simp
  omega
theorem ok_rep {v x a b : Int} {vs : List (Int × Int)} : (decide (x = 0) && repOkB v a b vs) = msgOkB 3 v x a b vs := by
  unfold msgOkB repOkB viewOkB
  rw [if_pos rfl]
  cases lockOkB a b v <;> cases votesOkB vs v <;> simp
  rw [Bool.eq_iff_iff]; simp
  omega
theorem ok_none {k v x a b : Int} {vs : List (Int × Int)} (hk : k < 0 ∨ 4 < k) : false = msgOkB k v x a b vs := by
  unfold msgOkB
  rw [show decide (0 ≤ k ∧ k ≤ 4) = false by simp; omega]
  rfl

/-- The interface value that messageOf makes of a message. -/
def messageV (k v x a b : Int) (s : Value) : Value :=
  if k = 0 ∨ k = 1 ∨ k = 2 then .iface 163 (.agg #[.int .i64 k, .int .i64 v, .int .i64 x])
  else if k = 3 then .iface 166 (.agg #[.int .i64 v, .int .i64 a, .int .i64 b, s])
  else if k = 4 then .iface 168 (.agg #[.int .i64 x]) else .nilIface

theorem messageOf_is (q : Bool) (k v x a b : Int) (A : Option Addr) (c : Nat) (vs : List (Int × Int)) (hq : msgOkB k v x a b vs = q) (w : World) (hr : Rd w w.heap.size A vs) (hn : vs.length ≤ 1048576) :
    Calls Try.prog 95 #[.agg #[.int .i64 k, .int .i64 v, .int .i64 x, .int .i64 a, .int .i64 b, .slice A vs.length c]] w fun e w' => e = .returned (.tuple #[messageV k v x a b (.slice A vs.length c), .bool q]) ∧ Below w.heap.size w w' := by
  unfold messageV
  by_cases h0 : k = 0 ∨ k = 1 ∨ k = 2
  · have h := messageOf_cast _ _ k v x a b A c vs.length h0 rfl rfl w
    rw [ok_cast h0, hq] at h
    rwa [if_pos h0]
  rw [if_neg h0]
  by_cases h3 : k = 3
  · subst h3
    have h := messageOf_rep _ _ v x a b A c vs rfl rfl w hr hn
    rw [ok_rep, hq] at h
    rwa [if_pos rfl]
  rw [if_neg h3]
  by_cases h4 : k = 4
  · subst h4
    have h := messageOf_done _ _ v x a b A c vs.length rfl rfl w
    rw [ok_done, hq] at h
    rwa [if_pos rfl]
  · have h5 : k < 0 ∨ 4 < k := by omega
    have h := messageOf_none k v x a b A c vs.length h5 w
    rw [ok_none (v := v) (x := x) (a := a) (b := b) (vs := vs) h5, hq] at h
    rwa [if_neg h4]

theorem implMsgOk_is (q : Bool) (k v x a b : Int) (A : Option Addr) (c : Nat) (vs : List (Int × Int)) (hq : msgOkB k v x a b vs = q) (w : World) (hr : Rd w w.heap.size A vs) (hn : vs.length ≤ 1048576) :
    Calls Try.prog 60 #[.agg #[.int .i64 k, .int .i64 v, .int .i64 x, .int .i64 a, .int .i64 b, .slice A vs.length c]] w fun e w' => e = .returned (.bool q) ∧ Below w.heap.size w w' := by
  have hr0 := fun O => (hr.alloc (Nat.le_refl _) O).more (Bd' := (w.alloc O).heap.size) (by simp)
  have HR := Lib.hid hr0; clear hr0 hr
  have HQ := Lib.hid hq; clear hq
  go_enter Try.func60, Try.ntmps60
  go_wp2_with (go_at_call 95; refine (messageOf_is q k v x a b A c vs HQ.out _ (HR.out _) hn).mono ?_; rintro e w1 ⟨rfl, hb1⟩)
  go_ret
  exact ⟨rfl, Below.trans ((Below.refl _ _).alloc (Nat.le_refl _) _) (hb1.mono (by simp))⟩
theorem implMsgOk_any (k v x a b : Int) (A : Option Addr) (c : Nat) (vs : List (Int × Int)) (w : World) (hr : Rd w w.heap.size A vs) (hn : vs.length ≤ 1048576) :
    Calls Try.prog 60 #[.agg #[.int .i64 k, .int .i64 v, .int .i64 x, .int .i64 a, .int .i64 b, .slice A vs.length c]] w fun e w' => e = .returned (.bool (msgOkB k v x a b vs)) ∧ Below w.heap.size w w' :=
  implMsgOk_is _ k v x a b A c vs rfl w hr hn
end Go.Proofs.Ytfdfjmibjnmhpaa.V
