/-
  Reports and votes of a range of memory: contracts of the marks. No statement is proved here.
-/
import Derived.Test.YtcfjmhebhhekbaaRImpl
import Derived.Test.YtcfjmhebhhekbaaRMarks
import Derived.Test.YtcfjmhebhhekbaaVMarks
set_option linter.unusedVariables false
set_option maxRecDepth 100000
namespace Go.Proofs.Ytcfjmhebhhekbaa.V
open Go.RowKit Go.Proofs.Ytcfjmhebhhekbaa.B

theorem Mid.of_below {w w' : World} {lo hi : Nat} (h : Below w.heap.size w w') : Mid lo hi w w' := ⟨h.os, h.tape, h.output, h.size, fun k hk _ => h.block k hk⟩
theorem Mid.wide {w w' : World} {lo hi lo' hi' : Nat} (h : Mid lo hi w w') (h1 : lo' ≤ lo) (h2 : hi ≤ hi') : Mid lo' hi' w w' := ⟨h.os, h.tape, h.output, h.size, fun k hk ho => h.block k hk (by omega)⟩
theorem Mid.low {w w' : World} {lo hi : Nat} (h : Mid lo hi w w') {Bd : Nat} (h1 : Bd ≤ lo) (h2 : Bd ≤ w.heap.size) : Below Bd w w' := ⟨h.os, h.tape, h.output, h.size, fun k hk => h.block k (by omega) (.inl (by omega))⟩
theorem Mid.blk {w w' : World} {lo hi : Nat} (h : Mid lo hi w w') {g : Nat} {t : TypeId} {cs : Array Value} (hb : Blk w g t cs) (ho : g < lo ∨ hi ≤ g) : Blk w' g t cs := (h.block g hb.lt ho).trans hb
theorem Mid.of_grown {w w' : World} {g lo hi : Nat} (h : w.grownBy w' (some g)) (h1 : lo ≤ g) (h2 : g < hi) : Mid lo hi w w' := (Mid.refl lo hi w).grown h h1 h2
/-- Reports whose blocks all lie from lo on and below hi; the first j bear marks from k on. -/
def Own0 (w : World) (lo hi : Nat) (B : Option Addr) (ys : List Pp) (k : Int) (j : Nat) : Prop :=
  0 < ys.length → ∃ g gs cur, B = some ⟨g, 0, none⟩ ∧ MkQ w g gs cur ys k j ∧ InQ lo hi g gs ys
section
variable {w w' : World} {lo hi a b : Nat} {B : Option Addr} {ys : List Pp} {k : Int} {j : Nat}
theorem Own0.mid (h : Own0 w lo hi B ys k j) (hm : Mid a b w w') (ho : hi ≤ a ∨ b ≤ lo) : Own0 w' lo hi B ys k j := fun h0 => by
  obtain ⟨g, gs, cur, h1, h2, h3⟩ := h h0
  exact ⟨g, gs, cur, h1, h2.move h3 (fun i h4 h5 h6 => hm.block i h6 (by omega)), h3⟩
theorem Own0.on (h : Own0 w lo hi B ys k j) (hb : Below w.heap.size w w') : Own0 w' lo hi B ys k j := fun h0 => by
  obtain ⟨g, gs, cur, h1, h2, h3⟩ := h h0
  exact ⟨g, gs, cur, h1, h2.on hb, h3⟩
theorem Own0.at_ (h : Own0 w lo hi B ys k 0) (k' : Int) : Own0 w lo hi B ys k' 0 := fun h0 => by
  obtain ⟨g, gs, cur, h1, h2, h3⟩ := h h0
  exact ⟨g, gs, cur, h1, ⟨h2.blk, h2.size, h2.votes, fun i hi h0 => by
    obtain ⟨a1, cs, a2, a3, _⟩ := h2.own i hi h0
    exact ⟨a1, cs, a2, a3, fun h => absurd h (by omega)⟩, fun i hi => absurd hi (by omega), h2.apart⟩, h3⟩
end
theorem OwnG.own0 {rs : List Rp} {w w' : World} {B : Option Addr} {d : Nat} {ys : List Pp} {gs : Nat → Nat} (h : OwnG rs w w' B d ys gs) (k : Int) : Own0 w' w.heap.size w'.heap.size B ys k 0 := fun h0 => by
  obtain ⟨g, cur, h1, h2, h3⟩ := h.mk_ k h0
  exact ⟨g, gs, cur, h1, h2, h3⟩
theorem Cpd.own0 {w : World} {g n lo : Nat} {cs : Array Value} {ps qs : List Pp} (hk : Blk w g 28 cs) (h : Cpd w g n cs ps qs n) (hl : lo ≤ g) (k : Int) : Own0 w lo w.heap.size (some ⟨g, 0, none⟩) qs k 0 := fun _ => by
  obtain ⟨gs, h1, h2⟩ := MkQ.of_cpd hk h k
  exact ⟨g, gs, cs, rfl, h1, by have := h2.1; omega, h2.2.1, fun i hi h0 => by have := h2.2.2 i hi h0; omega⟩
set_option maxHeartbeats 800000 in
theorem markReportS_nil (A : Option Addr) (c : Nat) (k : Int) (w : World) : Calls Try.prog 33 #[.slice A 0 c, .int .i64 k] w fun e w' => e = .returned (.int .i64 k) ∧ w = w' := by
  go_enter Try.func33, Try.ntmps33
  go_wp2
  go_loopw [1, 5] (fun kk i wr => kk = .int .i64 k ∧ i = .int .i64 0 ∧ w = wr) (fun _ _ _ => 0)
  case atStart => exact ⟨rfl, rfl, rfl⟩
  case round =>
    obtain ⟨rfl, rfl, rfl⟩ := hrel
    go_wp2
    go_ret
    exact ⟨rfl, rfl⟩
set_option maxHeartbeats 800000 in
theorem heldReportS_nil (A : Option Addr) (c : Nat) (k : Int) (w : World) : Calls Try.prog 35 #[.slice A 0 c, .int .i64 k] w fun e w' => e = .returned (.int .i64 k) ∧ w = w' := by
  go_enter Try.func35, Try.ntmps35
  go_wp2
  go_loopw [1, 5] (fun kk i wr => kk = .int .i64 k ∧ i = .int .i64 0 ∧ w = wr) (fun _ _ _ => 0)
  case atStart => exact ⟨rfl, rfl, rfl⟩
  case round =>
    obtain ⟨rfl, rfl, rfl⟩ := hrel
    go_wp2
    go_ret
    exact ⟨rfl, rfl⟩
theorem Own0.mark {w : World} {lo hi : Nat} {B : Option Addr} {ys : List Pp} {k : Int} (c : Nat) (h : Own0 w lo hi B ys k 0) (hf : Few ys) (h0 : 0 ≤ k) (h1 : kR ys k ys.length ≤ 16777216) :
    Calls Try.prog 33 #[.slice B ys.length c, .int .i64 k] w fun e w' => e = .returned (.int .i64 (kR ys k ys.length)) ∧ Own0 w' lo hi B ys k ys.length ∧ Mid lo hi w w' := by
  by_cases hz : ys.length = 0
  · have : ys = [] := List.eq_nil_of_length_eq_zero hz
    subst this
    refine (markReportS_nil B c k w).mono ?_
    rintro e w' ⟨rfl, rfl⟩
    exact ⟨by rw [List.length_nil, kR_zero], fun h => absurd h (by simp), Mid.refl _ _ _⟩
  · obtain ⟨g, gs, cur, rfl, h2, h3⟩ := h (by omega)
    refine (markReportS_any lo hi g c gs cur ys k w h2 h3 hf.1 hf.2 h0 h1).mono ?_
    rintro e w' ⟨rfl, ⟨cur', h4⟩, h5⟩
    exact ⟨rfl, fun _ => ⟨g, gs, cur', rfl, h4, h3⟩, h5⟩
theorem Own0.held {w : World} {lo hi : Nat} {B : Option Addr} {ys : List Pp} {k : Int} (c : Nat) (h : Own0 w lo hi B ys k ys.length) (hf : Few ys) (h0 : 0 ≤ k) (h1 : kR ys k ys.length ≤ 16777216) :
    Calls Try.prog 35 #[.slice B ys.length c, .int .i64 k] w fun e w' => e = .returned (.int .i64 (kR ys k ys.length)) ∧ w = w' := by
  by_cases hz : ys.length = 0
  · have : ys = [] := List.eq_nil_of_length_eq_zero hz
    subst this
    refine (heldReportS_nil B c k w).mono ?_
    rintro e w' ⟨rfl, rfl⟩
    exact ⟨by rw [List.length_nil, kR_zero], rfl⟩
  · obtain ⟨g, gs, cur, rfl, h2, h3⟩ := h (by omega)
    exact heldReportS_any g c gs cur ys k w h2 hf.1 hf.2 h0 h1
/-- Votes whose block lies from lo on and below hi. -/
def OwnVt (w : World) (lo hi : Nat) (A : Option Addr) (n : Nat) (k : Int) (q : Bool) : Prop :=
  0 < n → ∃ g cs, A = some ⟨g, 0, none⟩ ∧ lo ≤ g ∧ g < hi ∧ Blk w g 25 cs ∧ n * 2 ≤ cs.size ∧ (q = true → MK cs k n)
theorem OwnVt.mid {w w' : World} {lo hi a b n : Nat} {A : Option Addr} {k : Int} {q : Bool} (h : OwnVt w lo hi A n k q) (hm : Mid a b w w') (ho : hi ≤ a ∨ b ≤ lo) : OwnVt w' lo hi A n k q := fun h0 => by
  obtain ⟨g, cs, h1, h2, h3, h4, h5⟩ := h h0
  exact ⟨g, cs, h1, h2, h3, hm.blk h4 (by omega), h5⟩
theorem OwnVt.on {w w' : World} {lo hi n : Nat} {A : Option Addr} {k : Int} {q : Bool} (h : OwnVt w lo hi A n k q) (hb : Below w.heap.size w w') : OwnVt w' lo hi A n k q := fun h0 => by
  obtain ⟨g, cs, h1, h2, h3, h4, h5⟩ := h h0
  exact ⟨g, cs, h1, h2, h3, h4.on hb, h5⟩
theorem OwnVt.of_own {w : World} {lo : Nat} {A : Option Addr} {vs : List (Int × Int)} {c : Nat} (h : w.ownsRow lo 25 2 (.slice A vs.length c) vs.length (vcells vs)) (k : Int) : OwnVt w lo w.heap.size A vs.length k false := fun h0 => by
  rcases own_votes h with rfl | ⟨g, cs, h1, h2, h3, h4, h5⟩
  · simp at h0
  · exact ⟨g, cs, h1, h2, h3.lt, h3, h5, fun h => by cases h⟩
theorem OwnVt.of_blk {w : World} {lo g : Nat} {cs : Array Value} {n : Nat} (h : Blk w g 25 cs) (hl : lo ≤ g) (hs : n * 2 ≤ cs.size) (k : Int) : OwnVt w lo w.heap.size (some ⟨g, 0, none⟩) n k false := fun _ => ⟨g, cs, rfl, hl, h.lt, h, hs, fun h => by cases h⟩
/-- Votes that lie from lo on and below hi. -/
def RdIn (w : World) (lo hi : Nat) (A : Option Addr) (vs : List (Int × Int)) : Prop := 0 < vs.length → ∃ g cs, A = some ⟨g, 0, none⟩ ∧ lo ≤ g ∧ g < hi ∧ Blk w g 25 cs ∧ PV cs vs
theorem RdIn.of_own {w : World} {lo : Nat} {A : Option Addr} {vs : List (Int × Int)} {c : Nat} (h : w.ownsRow lo 25 2 (.slice A vs.length c) vs.length (vcells vs)) : RdIn w lo w.heap.size A vs := fun h0 => by
  rcases own_votes h with rfl | ⟨g, cs, h1, h2, h3, h4, h5⟩
  · simp at h0
  · exact ⟨g, cs, h1, h2, h3.lt, h3, h4⟩
theorem RdIn.mid {w w' : World} {lo hi a b : Nat} {A : Option Addr} {vs : List (Int × Int)} (h : RdIn w lo hi A vs) (hm : Mid a b w w') (ho : hi ≤ a ∨ b ≤ lo) : RdIn w' lo hi A vs := fun h0 => by
  obtain ⟨g, cs, h1, h2, h3, h4, h5⟩ := h h0
  exact ⟨g, cs, h1, h2, h3, hm.blk h4 (by omega), h5⟩
theorem RdIn.on {w w' : World} {lo hi : Nat} {A : Option Addr} {vs : List (Int × Int)} (h : RdIn w lo hi A vs) (hb : Below w.heap.size w w') : RdIn w' lo hi A vs := fun h0 => by
  obtain ⟨g, cs, h1, h2, h3, h4, h5⟩ := h h0
  exact ⟨g, cs, h1, h2, h3, h4.on hb, h5⟩
theorem RdIn.rd {w : World} {lo hi : Nat} {A : Option Addr} {vs : List (Int × Int)} (h : RdIn w lo hi A vs) : Rd w w.heap.size A vs := by
  by_cases h0 : 0 < vs.length
  · obtain ⟨g, cs, rfl, h2, h3, h4, h5⟩ := h h0
    exact h5.rd h4 h4.lt
  · rw [List.eq_nil_of_length_eq_zero (show vs.length = 0 by omega)]; exact Rd.nil_
/-- Reports that lie, votes and all, from lo on and below hi. -/
def RdRIn (w : World) (lo hi : Nat) (B : Option Addr) (ys : List Pp) : Prop :=
  0 < ys.length → ∃ g cs, B = some ⟨g, 0, none⟩ ∧ lo ≤ g ∧ g < hi ∧ Blk w g 28 cs ∧ (∀ i, i < ys.length → four (fun j => cs[i * 4 + j]?) (ys.getD i zP)) ∧ ∀ i, i < ys.length → RdIn w lo hi (ys.getD i zP).A (ys.getD i zP).r.vs
theorem RdRIn.mid {w w' : World} {lo hi a b : Nat} {B : Option Addr} {ys : List Pp} (h : RdRIn w lo hi B ys) (hm : Mid a b w w') (ho : hi ≤ a ∨ b ≤ lo) : RdRIn w' lo hi B ys := fun h0 => by
  obtain ⟨g, cs, h1, h2, h3, h4, h5, h6⟩ := h h0
  exact ⟨g, cs, h1, h2, h3, hm.blk h4 (by omega), h5, fun i hi => (h6 i hi).mid hm ho⟩
theorem RdRIn.on {w w' : World} {lo hi : Nat} {B : Option Addr} {ys : List Pp} (h : RdRIn w lo hi B ys) (hb : Below w.heap.size w w') : RdRIn w' lo hi B ys := fun h0 => by
  obtain ⟨g, cs, h1, h2, h3, h4, h5, h6⟩ := h h0
  exact ⟨g, cs, h1, h2, h3, h4.on hb, h5, fun i hi => (h6 i hi).on hb⟩
theorem RdRIn.rd {w : World} {lo hi : Nat} {B : Option Addr} {ys : List Pp} (h : RdRIn w lo hi B ys) : RdR w w.heap.size B ys := fun h0 => by
  obtain ⟨g, cs, rfl, h2, h3, h4, h5, h6⟩ := h h0
  refine ⟨g, 0, rfl, h4.lt, fun i hi => ⟨?_, (h6 i hi).rd⟩⟩
  obtain ⟨a0, a1, a2, a3⟩ := h5 i hi
  simp only [Nat.zero_add]
  exact ⟨(h4.cell _).trans a0, (h4.cell _).trans a1, (h4.cell _).trans a2, (h4.cell _).trans a3⟩
theorem OwnG.rin {rs : List Rp} {w w' : World} {B : Option Addr} {d : Nat} {ys : List Pp} {gs : Nat → Nat} (h : OwnG rs w w' B d ys gs) : RdRIn w' w.heap.size w'.heap.size B ys := fun h0 => by
  obtain ⟨h1, ⟨hl, h⟩, h3, h4⟩ := h
  rcases h with ⟨e1, e2⟩ | ⟨g, cap, cur, e1, e2, e3, e4, e5, e6, e7⟩
  · omega
  · injection e1 with e1
    have hk : Blk w' g 28 cur := e3
    refine ⟨g, cur, e1, e2, hk.lt, hk, fun i hi => four_of hi fun j hj => ?_, fun i hi h0 => ?_⟩
    · rw [← e7, List.getElem?_take_of_lt (by omega)]
      simp
    · obtain ⟨a1, a2, cs, a3, a4, a5⟩ := h3 i hi h0
      exact ⟨_, cs, a1, a2, a3.lt, a3, a5⟩
set_option maxHeartbeats 800000 in
theorem OwnVt.mark {w : World} {lo hi n : Nat} {A : Option Addr} {k0 : Int} {q : Bool} (f v x k : Int) (c : Nat) (h : OwnVt w lo hi A n k0 q) (hw : hi ≤ w.heap.size) (hn : n ≤ 1048576) (h0 : 0 ≤ k) (h1 : k ≤ 16777216) :
    Calls Try.prog 34 #[.agg #[.int .i64 f, .int .i64 v, .int .i64 x, .slice A n c], .int .i64 k] w fun e w' => e = .returned (.int .i64 (k + 2 * n)) ∧ OwnVt w' lo hi A n k true ∧ Mid lo hi w w' := by
  have hM : ∀ W, Below w.heap.size w W → Calls Try.prog 68 #[.slice A n c, .int .i64 k] W fun e w' => e = .returned (.int .i64 (k + 2 * n)) ∧ OwnVt w' lo hi A n k true ∧ Mid lo hi w w' := fun W hW => by
    by_cases e0 : n = 0
    · subst e0
      refine (markNil A c k W).mono ?_
      rintro e w' ⟨rfl, rfl⟩
      exact ⟨by simp, fun h => absurd h (by omega), Mid.of_below hW⟩
    · obtain ⟨g, cs, rfl, a1, a2, a3, a4, _⟩ := h (by omega)
      refine (mark_any g n c 25 cs k W (a3.on hW) a4 hn h0 h1).mono ?_
      rintro e w' ⟨rfl, cs', hb', hs', hm, hg⟩
      exact ⟨rfl, fun _ => ⟨g, cs', rfl, a1, a2, hb', by omega, fun _ => hm⟩, (Mid.of_below hW).trans (Mid.of_grown hg a1 a2)⟩
  have HM := Lib.hid hM
  clear hM h
  go_enter Try.func34, Try.ntmps34
  go_wp2_with (go_at_call 68; refine (HM.out _ (by first | exact Below.refl _ _ | exact up_ (Below.refl _ _) _)).mono ?_; rintro e w1 ⟨rfl, ho, hm⟩)
  go_ret
  exact ⟨rfl, ho, hm⟩
set_option maxHeartbeats 800000 in
theorem OwnVt.held {w : World} {lo hi n : Nat} {A : Option Addr} (f v x k : Int) (c : Nat) (h : OwnVt w lo hi A n k true) (hn : n ≤ 1048576) (h0 : 0 ≤ k) (h1 : k ≤ 16777216) :
    Calls Try.prog 37 #[.agg #[.int .i64 f, .int .i64 v, .int .i64 x, .slice A n c], .int .i64 k] w fun e w' => e = .returned (.int .i64 (k + 2 * n)) ∧ Below w.heap.size w w' := by
  have hM : ∀ W, Below w.heap.size w W → Calls Try.prog 69 #[.slice A n c, .int .i64 k] W fun e w' => e = .returned (.int .i64 (k + 2 * n)) ∧ Below w.heap.size w w' := fun W hW => by
    by_cases e0 : n = 0
    · subst e0
      refine (heldNil A c k W).mono ?_
      rintro e w' ⟨rfl, rfl⟩
      exact ⟨by simp, hW⟩
    · obtain ⟨g, cs, rfl, a1, a2, a3, a4, a5⟩ := h (by omega)
      refine (held_any g n c 25 cs k W (a3.on hW) (a5 rfl) hn h0 h1).mono ?_
      rintro e w' ⟨rfl, rfl⟩
      exact ⟨rfl, hW⟩
  have HM := Lib.hid hM
  have hnn : (0 : Int) ≤ (n : Int) := by omega
  have hnk : decide (k + 2 * (n : Int) < 0) = false := decide_eq_false (by omega)
  clear hM h
  go_enter Try.func37, Try.ntmps37
  go_wp2_with (go_at_call 69; refine (HM.out _ (by first | exact Below.refl _ _ | exact up_ (Below.refl _ _) _)).mono ?_; rintro e w1 ⟨rfl, hm⟩)
  go_ret
  exact ⟨rfl, hm⟩
end Go.Proofs.Ytcfjmhebhhekbaa.V
