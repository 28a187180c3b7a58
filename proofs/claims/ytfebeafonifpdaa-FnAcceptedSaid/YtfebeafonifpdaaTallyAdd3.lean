/-
  TallyAdd of the model: its contract. No statement is proved here.
-/
import Derived.Test.YtfebeafonifpdaaTallyAdd2
set_option linter.unusedVariables false
set_option maxRecDepth 100000
namespace Go.Proofs.Ytfebeafonifpdaa.V
open Go.RowKit Go.Proofs.Ytfebeafonifpdaa.B

/-- The place of a ballot in a tally. -/
def place : List B3 → B3 → Nat
  | [], _ => 0
  | v :: vs, u => if cmp3 v u < 0 then place vs u + 1 else 0
theorem place_pl : ∀ (vs : List B3) (u : B3), Pl vs u (place vs u)
  | [], u => ⟨by simp [place], fun j hj => by simp [place] at hj, fun h => by simp at h⟩
  | v :: vs, u => by
    obtain ⟨h1, h2, h3⟩ := place_pl vs u
    by_cases h : cmp3 v u < 0
    · have e : place (v :: vs) u = place vs u + 1 := by simp [place, h]
      rw [e]
      refine ⟨by simp; omega, fun j hj => ?_, fun hk => ?_⟩
      · rcases j with _ | j
        · simpa using h
        · simpa using h2 j (by omega)
      · simpa using h3 (by simpa using hk)
    · have e : place (v :: vs) u = 0 := by simp [place, h]
      rw [e]
      exact ⟨by simp, fun j hj => by omega, fun _ => by simpa using h⟩
def addQ (vs : List B3) (u : B3) : Bool := tallyOkB vs && b3Ok u && !hasB vs u (place vs u)
def addU (vs : List B3) (u : B3) : List B3 := if tallyOkB vs && b3Ok u then (if hasB vs u (place vs u) then vs else insT vs (place vs u) u) else []
/-- A tally of the call's own, and a truth. -/
def TG (us : List B3) (q : Bool) (w : World) (e : Ending) (w' : World) : Prop :=
  ∃ B d, e = .returned (.tuple #[.agg #[.slice B us.length d], .bool q]) ∧ OT w' 54 w.heap.size B us ∧ Below w.heap.size w w'
theorem addU_len (vs : List B3) (u : B3) : (addU vs u).length ≤ vs.length + 1 := by
  unfold addU
  split
  · split
    · omega
    · have := (place_pl vs u).1
      rw [insT_len _ _ _ this]; omega
  · simp

theorem tallyOk_at {vs : List B3} (h : tallyOkB vs = true) (j : Nat) (hj : j < vs.length) : goodB vs j = true := by
  have := List.all_eq_true.1 h j (List.mem_range.2 hj)
  exact this
theorem tally_code {vs : List B3} (h : tallyOkB vs = true) : ∀ j, j < vs.length → (j : Int) ≤ (vs.getD j z3).2.1 * 7 + (vs.getD j z3).1 ∧ 0 ≤ (vs.getD j z3).1 ∧ (vs.getD j z3).1 < 7 ∧ 0 ≤ (vs.getD j z3).2.1 ∧ (vs.getD j z3).2.1 ≤ 9
  | 0, hj => by
    have g := tallyOk_at h 0 hj
    simp only [goodB, b3Ok, viewB, valB, Bool.and_eq_true, decide_eq_true_eq] at g
    omega
  | j + 1, hj => by
    have g := tallyOk_at h (j + 1) hj
    have ih := tally_code h j (by omega)
    simp only [goodB, b3Ok, viewB, valB, Bool.and_eq_true, Bool.or_eq_true, decide_eq_true_eq, Nat.add_sub_cancel] at g
    obtain ⟨g1, g2⟩ := g
    rcases g2 with g2 | g2
    · omega
    · unfold cmp3 at g2
      split at g2
      · split at g2 <;> omega
      · split at g2
        · omega
        · split at g2 <;> omega
theorem tally_len {vs : List B3} (h : tallyOkB vs = true) : vs.length ≤ 70 := by
  rcases Nat.eq_zero_or_pos vs.length with e | e
  · omega
  · have := tally_code h (vs.length - 1) (by omega)
    omega
theorem addU_small (vs : List B3) (u : B3) : (addU vs u).length ≤ 71 := by
  rcases h : tallyOkB vs with _ | _
  · simp [addU, h]
  · have h1 := addU_len vs u
    have h2 := tally_len h
    omega
theorem rd_box {w : World} {Bd o n d : Nat} {t : TypeId} {X B : Option Addr} {us : List B3} (h : Rd3 w Bd B us) (hb : Blk w o t #[.slice X n d]) (u : Value) : Rd3 (w.setCell ⟨o, 0, none⟩ u) Bd B us := fun hn => by
  obtain ⟨b, off, e, hlt, hc⟩ := h hn
  have hne : o ≠ b := fun e => by
    subst e
    have h1 := (hc 0 hn).1
    rw [hb.cell] at h1
    rcases hz : off + 0 * 3 with _ | m
    · rw [hz] at h1; simp at h1
    · rw [hz] at h1; simp at h1
  have hk : ∀ o', (w.setCell ⟨o, 0, none⟩ u).cell? ⟨b, o', none⟩ = w.cell? ⟨b, o', none⟩ := fun o' => World.cell?_setCell_other w _ ⟨b, o', none⟩ _ (fun e => hne (by injection e))
  exact ⟨b, off, e, hlt, fun i hi => ⟨(hk _).trans (hc i hi).1, (hk _).trans (hc i hi).2.1, (hk _).trans (hc i hi).2.2⟩⟩
/-- Behind the adding: the box of what it came to. -/
def AddMade (W0 : World) (us : List B3) (q : Bool) (s6 s7 : Value) (wx : World) : Prop :=
  ∃ o B d, s6 = .pointer (some ⟨o, 0, none⟩) ∧ s7 = .bool q ∧ Blk wx o 96 #[.slice B us.length d] ∧ us.length ≤ d ∧ Rd3 wx wx.heap.size B us ∧ W0.heap.size ≤ o ∧ Below W0.heap.size W0 wx
theorem add_late {W0 wd : World} {us : List B3} {q : Bool} {B : Option Addr} {d : Nat} (hB : Below W0.heap.size W0 wd) (hd : us.length ≤ d) (hr : Rd3 wd wd.heap.size B us) :
    AddMade W0 us q (.pointer (some ⟨wd.heap.size, 0, none⟩)) (.bool q) (wd.alloc (.cells #[.slice B us.length d] 96)) :=
  ⟨_, B, d, rfl, rfl, Blk.new _ _ _, hd, hr.up _, hB.size, up_ hB _⟩
theorem add_early {W0 wd : World} {us : List B3} {q : Bool} {B : Option Addr} {d o : Nat} (hz : Blk wd o 96 #[.slice none 0 0]) (ho : W0.heap.size ≤ o) (hB : Below W0.heap.size W0 wd) (hd : us.length ≤ d) (hr : Rd3 wd wd.heap.size B us) :
    AddMade W0 us q (.pointer (some ⟨o, 0, none⟩)) (.bool q) (wd.setCell ⟨o, 0, none⟩ (.slice B us.length d)) :=
  ⟨o, B, d, rfl, rfl, hz.set_ 0 _, hd, (rd_box hr hz _).more (by simp [World.setCell]), ho, Below.setCell hB ho _⟩

end Go.Proofs.Ytfebeafonifpdaa.V
