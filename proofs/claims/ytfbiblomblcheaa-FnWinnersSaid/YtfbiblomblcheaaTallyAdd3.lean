/-
  TallyAdd of the model: its contract. No statement is proved here.
-/
import Derived.Test.YtfbiblomblcheaaTallyAdd2
set_option linter.unusedVariables false
set_option maxRecDepth 100000
namespace Go.Proofs.Ytfbiblomblcheaa.V
open Go.RowKit Go.Proofs.Ytfbiblomblcheaa.B

/-- The place of a ballot in a tally. -/
def place : List B3 → B3 → Nat
  | [], _ => 0
  | v :: vs, u => if cmp3 v u < 0 then place vs u + 1 else 0
theorem place_pl : ∀ (vs : List B3) (u : B3), Pl vs u (place vs u)
  | [], u => ⟨by simp [place], fun j hj => by simp [place] at hj, fun h => by simp at h⟩
  | v :: vs, u => by
    obtain ⟨h1, h2, h3⟩ := place_pl vs u
    by_cases h : cmp3 v u < 0
    · have e : place (v :: vs) u = place vs u + 1 := by simp [place, h]
      rw [e]
      refine ⟨by simp; omega, fun j hj => ?_, fun hk => ?_⟩
      · rcases j with _ | j
        · simpa using h
        · simpa using h2 j (by omega)
      · simpa using h3 (by simpa using hk)
    · have e : place (v :: vs) u = 0 := by simp [place, h]
      rw [e]
      exact ⟨by simp, fun j hj => by omega, fun _ => by simpa using h⟩
def addQ (vs : List B3) (u : B3) : Bool := tallyOkB vs && b3Ok u && !hasB vs u (place vs u)
def addU (vs : List B3) (u : B3) : List B3 := if tallyOkB vs && b3Ok u then (if hasB vs u (place vs u) then vs else insT vs (place vs u) u) else []
/-- A tally of the call's own, and a truth. -/
def TG (us : List B3) (q : Bool) (w : World) (e : Ending) (w' : World) : Prop :=
  ∃ B d, e = .returned (.tuple #[.agg #[.slice B us.length d], .bool q]) ∧ OT w' 31 w.heap.size B us ∧ Below w.heap.size w w'
theorem addU_len (vs : List B3) (u : B3) : (addU vs u).length ≤ vs.length + 1 := by
  unfold addU
  split
  · split
    · omega
    · have := (place_pl vs u).1
      rw [insT_len _ _ _ this]; omega
  · simp

theorem tallyOk_at {vs : List B3} (h : tallyOkB vs = true) (j : Nat) (hj : j < vs.length) : goodB vs j = true := by
  have := List.all_eq_true.1 h j (List.mem_range.2 hj)
  exact this
theorem tally_code {vs : List B3} (h : tallyOkB vs = true) : ∀ j, j < vs.length → (j : Int) ≤ (vs.getD j z3).2.1 * 7 + (vs.getD j z3).1 ∧ 0 ≤ (vs.getD j z3).1 ∧ (vs.getD j z3).1 < 7 ∧ 0 ≤ (vs.getD j z3).2.1 ∧ (vs.getD j z3).2.1 ≤ 9
  | 0, hj => by
    have g := tallyOk_at h 0 hj
    simp only [goodB, b3Ok, viewB, valB, Bool.and_eq_true, decide_eq_true_eq] at g
    omega
  | j + 1, hj => by
    have g := tallyOk_at h (j + 1) hj
    have ih := tally_code h j (by omega)
    simp only [goodB, b3Ok, viewB, valB, Bool.and_eq_true, Bool.or_eq_true, decide_eq_true_eq, Nat.add_sub_cancel] at g
    obtain ⟨g1, g2⟩ := g
    rcases g2 with g2 | g2
    · omega
    · unfold cmp3 at g2
      split at g2
      · split at g2 <;> omega
      · split at g2
        · omega
        · split at g2 <;> omega
theorem tally_len {vs : List B3} (h : tallyOkB vs = true) : vs.length ≤ 70 := by
  rcases Nat.eq_zero_or_pos vs.length with e | e
  · omega
  · have := tally_code h (vs.length - 1) (by omega)
    omega
theorem addU_small (vs : List B3) (u : B3) : (addU vs u).length ≤ 71 := by
  rcases h : tallyOkB vs with _ | _
  · simp [addU, h]
  · have h1 := addU_len vs u
    have h2 := tally_len h
    omega
theorem rd_box {w : World} {Bd o n d : Nat} {t : TypeId} {X B : Option Addr} {us : List B3} (h : Rd3 w Bd B us) (hb : Blk w o t #[.slice X n d]) (u : Value) : Rd3 (w.setCell ⟨o, 0, none⟩ u) Bd B us := fun hn => by
  obtain ⟨b, off, e, hlt, hc⟩ := h hn
  have hne : o ≠ b := fun e => by
    subst e
    have h1 := (hc 0 hn).1
    rw [hb.cell] at h1
    rcases hz : off + 0 * 3 with _ | m
    · rw [hz] at h1; simp at h1
    · rw [hz] at h1; simp at h1
  have hk : ∀ o', (w.setCell ⟨o, 0, none⟩ u).cell? ⟨b, o', none⟩ = w.cell? ⟨b, o', none⟩ := fun o' => World.cell?_setCell_other w _ ⟨b, o', none⟩ _ (fun e => hne (by injection e))
  exact ⟨b, off, e, hlt, fun i hi => ⟨(hk _).trans (hc i hi).1, (hk _).trans (hc i hi).2.1, (hk _).trans (hc i hi).2.2⟩⟩
/-- Behind the adding: the box of what it came to. -/
def AddMade (W0 : World) (us : List B3) (q : Bool) (s6 s7 : Value) (wx : World) : Prop :=
  ∃ o B d, s6 = .pointer (some ⟨o, 0, none⟩) ∧ s7 = .bool q ∧ Blk wx o 29 #[.slice B us.length d] ∧ us.length ≤ d ∧ Rd3 wx wx.heap.size B us ∧ W0.heap.size ≤ o ∧ Below W0.heap.size W0 wx
theorem add_late {W0 wd : World} {us : List B3} {q : Bool} {B : Option Addr} {d : Nat} (hB : Below W0.heap.size W0 wd) (hd : us.length ≤ d) (hr : Rd3 wd wd.heap.size B us) :
    AddMade W0 us q (.pointer (some ⟨wd.heap.size, 0, none⟩)) (.bool q) (wd.alloc (.cells #[.slice B us.length d] 29)) :=
  ⟨_, B, d, rfl, rfl, Blk.new _ _ _, hd, hr.up _, hB.size, up_ hB _⟩
theorem add_early {W0 wd : World} {us : List B3} {q : Bool} {B : Option Addr} {d o : Nat} (hz : Blk wd o 29 #[.slice none 0 0]) (ho : W0.heap.size ≤ o) (hB : Below W0.heap.size W0 wd) (hd : us.length ≤ d) (hr : Rd3 wd wd.heap.size B us) :
    AddMade W0 us q (.pointer (some ⟨o, 0, none⟩)) (.bool q) (wd.setCell ⟨o, 0, none⟩ (.slice B us.length d)) :=
  ⟨o, B, d, rfl, rfl, hz.set_ 0 _, hd, (rd_box hr hz _).more (by simp [World.setCell]), ho, Below.setCell hB ho _⟩

set_option maxHeartbeats 1600000 in
theorem specTallyAdd_any (a b x : Int) (A : Option Addr) (c : Nat) (vs : List B3) (w : World) (hr : Rd3 w w.heap.size A vs) (hn : vs.length ≤ 1048576) (hnc : vs.length ≤ c) :
    Calls Try.prog 42 #[.agg #[.slice A vs.length c], .agg #[.int .i64 a, .int .i64 b, .int .i64 x]] w (TG (addU vs (a, b, x)) (addQ vs (a, b, x)) w) := by
  have kt := ((Blk.new w 29 #[.slice A vs.length c]).alloc (.cells #[.int .i64 a, .int .i64 b, .int .i64 x] 31)).alloc (.cells #[.slice none 0 0] 29)
  have kb := (Blk.new (w.alloc (.cells #[.slice A vs.length c] 29)) 31 #[.int .i64 a, .int .i64 b, .int .i64 x]).alloc (.cells #[.slice none 0 0] 29)
  have kz := Blk.new ((w.alloc (.cells #[.slice A vs.length c] 29)).alloc (.cells #[.int .i64 a, .int .i64 b, .int .i64 x] 31)) 29 #[.slice none 0 0]
  simp only [World.size_alloc] at kb kz
  have hr0 := ((hr.up (.cells #[.slice A vs.length c] 29)).up (.cells #[.int .i64 a, .int .i64 b, .int .i64 x] 31)).up (.cells #[.slice none 0 0] 29)
  have HR := Lib.hid hr0; clear hr0 hr
  rcases hq : tallyOkB vs with _ | _
  · have e1 : addQ vs (a, b, x) = false := by simp [addQ, hq]
    have e2 : addU vs (a, b, x) = [] := by simp [addU, hq]
    rw [e1, e2]
    have HQ := Lib.hid hq; clear hq e1 e2 kt kb
    go_enter Try.func42, Try.ntmps42
    go_wp2_with fail
    refine (specTallyOk_is false A c vs HQ.out _ HR.out hn).mono ?_
    rintro e w1 ⟨rfl, hb1⟩
    have hB1 := on_ (up_ (up_ (up_ (Below.refl w.heap.size w) _) _) _) hb1
    have kz1 := kz.on hb1
    clear hb1 kz
    have rz1 := kz1.rule
    have fz1 := fun i => kz1.frozen i
    go_wp2
    refine bodyPost_ret (v := .tuple #[.agg #[.slice none 0 0], .bool false]) (by simp [results, Try.results42, go_sem, rz1]) rfl ⟨none, 0, rfl, OT.nil_, Below.setCell hB1 (by simp <;> omega) _⟩
  · rcases hb : b3Ok (a, b, x) with _ | _
    · have e1 : addQ vs (a, b, x) = false := by simp [addQ, hb]
      have e2 : addU vs (a, b, x) = [] := by simp [addU, hb]
      rw [e1, e2]
      have HQ := Lib.hid hq; clear hq e1 e2
      have HBQ := Lib.hid hb; clear hb
      go_enter Try.func42, Try.ntmps42
      go_wp2_with fail
      refine (specTallyOk_is true A c vs HQ.out _ HR.out hn).mono ?_
      rintro e w1 ⟨rfl, hb1⟩
      have hB1 := on_ (up_ (up_ (up_ (Below.refl w.heap.size w) _) _) _) hb1
      have kz1 := kz.on hb1
      have kb1 := kb.on hb1
      clear hb1 kz kt kb
      have rb1 := kb1.rule
      go_wp2_with fail
      refine (ballot_is false a b x HBQ.out _).mono ?_
      rintro e w2 ⟨rfl, hb2⟩
      have hB2 := on_ hB1 hb2
      have kz2 := kz1.on hb2
      clear hb2 kz1 kb1 hB1 rb1
      have rz2 := kz2.rule
      have fz2 := fun i => kz2.frozen i
      go_wp2
      refine bodyPost_ret (v := .tuple #[.agg #[.slice none 0 0], .bool false]) (by simp [results, Try.results42, go_sem, rz2]) rfl ⟨none, 0, rfl, OT.nil_, Below.setCell hB2 (by simp <;> omega) _⟩
    · have hul := addU_len vs (a, b, x)
      have hgo := fun W (h : Rd3 W W.heap.size A vs) => l2add_go a b x A c _ vs (place_pl vs (a, b, x)) W h (by omega) hnc
      have e1 : (!hasB vs (a, b, x) (place vs (a, b, x))) = addQ vs (a, b, x) := by simp [addQ, hb, hq]
      have e2 : (if hasB vs (a, b, x) (place vs (a, b, x)) then vs else insT vs (place vs (a, b, x)) (a, b, x)) = addU vs (a, b, x) := by simp [addU, hb, hq]
      rw [e1, e2] at hgo
      clear e1 e2
      generalize addU vs (a, b, x) = us at *
      generalize addQ vs (a, b, x) = q at *
      have HGO := Lib.hid hgo; clear hgo
      have HQ := Lib.hid hq; clear hq
      have HBQ := Lib.hid hb; clear hb
      go_enter Try.func42, Try.ntmps42
      go_wp2_with fail
      refine (specTallyOk_is true A c vs HQ.out _ HR.out hn).mono ?_
      rintro e w1 ⟨rfl, hb1⟩
      have hB1 := on_ (up_ (up_ (up_ (Below.refl w.heap.size w) _) _) _) hb1
      have kz1 := kz.on hb1
      have kb1 := kb.on hb1
      have kt1 := kt.on hb1
      have hr1 := HR.out.on hb1
      clear hb1 kz kt kb
      have rb1 := kb1.rule
      go_wp2_with fail
      refine (ballot_is true a b x HBQ.out _).mono ?_
      rintro e w2 ⟨rfl, hb2⟩
      have hB2 := on_ hB1 hb2
      have kz2 := kz1.on hb2
      have kb2 := kb1.on hb2
      have kt2 := kt1.on hb2
      have hr2 := hr1.on hb2
      clear hb2 kz1 kb1 kt1 hB1 hr1 rb1
      have rb2 := kb2.rule
      have rt2 := kt2.rule
      have hz2 := kz2.lt
      go_wp2_with fail
      refine (HGO.out _ hr2).mono ?_
      rintro e w2a ⟨B, d, rfl, hud, hr3a, hb3a⟩
      have hB3 := up_ (on_ hB2 hb3a) (.cells #[.slice B us.length d] 29)
      have kz3 := (kz2.on hb3a).alloc (.cells #[.slice B us.length d] 29)
      have hr3 := hr3a.up (.cells #[.slice B us.length d] 29)
      have hs3 := kz3.lt
      clear kz2 hB2 hb3a kb2 kt2 hr2 rb2 rt2
      go_wp2_with fail
      refine (l2own_any B d us _ hr3 (by omega)).mono ?_
      rintro e w4 ⟨B4, d4, rfl, ho4, hb4, _⟩
      have kz4 := kz3.on hb4
      have hB4 := on_ hB3 hb4
      have rz4 := kz4.rule
      have fz4 := fun i => kz4.frozen i
      go_wp2
      refine bodyPost_ret (v := .tuple #[.agg #[.slice B4 us.length d4], .bool q]) (by simp [results, Try.results42, go_sem, rz4]) rfl ⟨B4, d4, rfl, OT.more (OT.set_ ho4 (by show w.heap.size + 1 + 1 < _; exact hs3) _) (by omega), Below.setCell hB4 (by show w.heap.size ≤ w.heap.size + 1 + 1; omega) _⟩
end Go.Proofs.Ytfbiblomblcheaa.V
