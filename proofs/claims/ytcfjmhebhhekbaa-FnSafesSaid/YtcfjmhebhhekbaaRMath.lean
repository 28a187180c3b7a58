/-
  Lists of reports in the order of their senders. No statement is proved here.
-/
import Derived.Test.YtcfjmhebhhekbaaL3Base
import Derived.Test.YtcfjmhebhhekbaaRGet
import Derived.Test.YtcfjmhebhhekbaaSafeMath
set_option linter.unusedVariables false
set_option maxRecDepth 100000
namespace Go.Proofs.Ytcfjmhebhhekbaa.V
open Go.RowKit Go.Proofs.Ytcfjmhebhhekbaa.B

/-- In the order of the senders. -/
def AscP (ps : List Pp) : Prop := ps.Pairwise fun a b => a.r.f < b.r.f
theorem asc_of {n view : Int} {ps : List Pp} (h : allR n view (rl ps) = true) : AscP ps := by
  unfold AscP
  rw [List.pairwise_iff_getElem]
  intro i j hi hj hij
  have h1 := asc_at h i j hij (by rw [rl_len]; exact hj)
  rw [rl_at, rl_at] at h1
  simpa [List.getD_eq_getElem?_getD, List.getElem?_eq_getElem hi, List.getElem?_eq_getElem hj] using h1
theorem fpos (k : Int) (p : Pp) (l : List Pp) (h : p.r.f < k) : (p :: l).filter (fun q => decide (q.r.f < k)) = p :: l.filter (fun q => decide (q.r.f < k)) := List.filter_cons_of_pos (by simpa using h)
theorem fneg (k : Int) (p : Pp) (l : List Pp) (h : ¬ p.r.f < k) : (p :: l).filter (fun q => decide (q.r.f < k)) = l.filter (fun q => decide (q.r.f < k)) := List.filter_cons_of_neg (by simpa using h)
theorem filt_step : ∀ (l : List Pp) (h : AscP l) (k : Nat), l.filter (fun p => decide (p.r.f < ((k + 1 : Nat) : Int))) = l.filter (fun p => decide (p.r.f < (k : Int))) ++ (match sl l k with | some p => [p] | none => [])
  | [], _, k => rfl
  | p :: l, h, k => by
    have ha : ∀ q ∈ l, p.r.f < q.r.f := fun q hq => List.rel_of_pairwise_cons h hq
    have ih := filt_step l (List.Pairwise.of_cons h) k
    by_cases h1 : p.r.f < (k : Int)
    · have e1 : p.r.f < ((k + 1 : Nat) : Int) := by omega
      have e3 : sl (p :: l) k = sl l k := by unfold sl; rw [List.find?_cons_of_neg (by simp; omega)]
      rw [fpos _ _ _ e1, fpos _ _ _ h1, e3, ih]
      rfl
    · have hn : ∀ q ∈ l, (k : Int) < q.r.f := fun q hq => by have := ha _ hq; omega
      have f1 : l.filter (fun q => decide (q.r.f < ((k + 1 : Nat) : Int))) = [] := by
        rw [List.filter_eq_nil_iff]
        intro q hq
        have := hn q hq
        simp; omega
      have f2 : l.filter (fun q => decide (q.r.f < (k : Int))) = [] := by
        rw [List.filter_eq_nil_iff]
        intro q hq
        have := hn q hq
        simp; omega
      by_cases h2 : p.r.f = (k : Int)
      · have e1 : p.r.f < ((k + 1 : Nat) : Int) := by omega
        have e3 : sl (p :: l) k = some p := by unfold sl; rw [List.find?_cons_of_pos (by simpa using h2)]
        rw [fpos _ _ _ e1, fneg _ _ _ h1, e3, f1, f2]
        rfl
      · have e1 : ¬ p.r.f < ((k + 1 : Nat) : Int) := by omega
        have e3 : sl (p :: l) k = none := by
          unfold sl
          rw [List.find?_eq_none]
          intro q hq
          rcases List.mem_cons.1 hq with rfl | hq
          · simpa using h2
          · have := hn q hq
            simp; omega
        rw [fneg _ _ _ e1, fneg _ _ _ h1, e3, f1, f2]
        rfl
theorem lst_sl {l : List Pp} (h : AscP l) (h0 : ∀ p ∈ l, 0 ≤ p.r.f) : ∀ k : Nat, lstS (sl l) k = l.filter fun p => decide (p.r.f < (k : Int))
  | 0 => by
    symm
    show List.filter _ l = []
    rw [List.filter_eq_nil_iff]
    intro q hq
    have := h0 q hq
    simp; omega
  | k + 1 => by
    rw [filt_step l h k, ← lst_sl h h0 k]
    rw [lstS]
    rcases sl l k with _ | p
    · simp
    · rfl
theorem lst_all {l : List Pp} (h : AscP l) (h0 : ∀ p ∈ l, 0 ≤ p.r.f ∧ p.r.f < 7) : lstS (sl l) 7 = l := by
  rw [lst_sl h (fun p hp => (h0 p hp).1), List.filter_eq_self]
  intro q hq
  exact decide_eq_true (h0 q hq).2
theorem insR_zero (ps : List Pp) (r : Pp) : insR ps 0 r = r :: ps := rfl
theorem insR_succ (p : Pp) (ps : List Pp) (k : Nat) (r : Pp) : insR (p :: ps) (k + 1) r = p :: insR ps k r := rfl
theorem sl_ins {r : Pp} {j : Nat} (hj : r.r.f = (j : Int)) : ∀ (ps : List Pp), sl ps j = none → sl (insR ps (placeR ps r.r.f) r) = updS (sl ps) j r
  | [], _ => by
    funext i
    show List.find? _ [r] = _
    unfold updS
    by_cases e : i = j
    · subst e; rw [if_pos rfl, List.find?_cons_of_pos (by simpa using hj)]
    · rw [if_neg e, List.find?_cons_of_neg (by simp; omega)]; rfl
  | p :: ps, hn => by
    have hpj : p.r.f ≠ (j : Int) := fun e => by
      unfold sl at hn
      rw [List.find?_cons_of_pos (by simpa using e)] at hn
      cases hn
    have hn2 : sl ps j = none := by
      unfold sl at hn ⊢
      rwa [List.find?_cons_of_neg (by simpa using hpj)] at hn
    have ih := sl_ins hj ps hn2
    funext i
    by_cases h : p.r.f < r.r.f
    · have e : placeR (p :: ps) r.r.f = placeR ps r.r.f + 1 := by simp [placeR, h]
      rw [e, insR_succ]
      have ihi := congrFun ih i
      unfold updS at ihi ⊢
      unfold sl at ihi ⊢
      by_cases hi : p.r.f = (i : Int)
      · rw [List.find?_cons_of_pos (by simpa using hi), List.find?_cons_of_pos (by simpa using hi), if_neg (by omega)]
      · rw [List.find?_cons_of_neg (by simpa using hi), List.find?_cons_of_neg (by simpa using hi), ihi]
    · have e : placeR (p :: ps) r.r.f = 0 := by simp [placeR, h]
      rw [e, insR_zero]
      unfold updS sl
      by_cases e2 : i = j
      · subst e2; rw [if_pos rfl, List.find?_cons_of_pos (by simpa using hj)]
      · rw [if_neg e2, List.find?_cons_of_neg (by simp; omega)]
theorem ins_asc {r : Pp} {j : Nat} (hj : r.r.f = (j : Int)) : ∀ (ps : List Pp), AscP ps → sl ps j = none → AscP (insR ps (placeR ps r.r.f) r)
  | [], _, _ => List.pairwise_singleton _ _
  | p :: ps, h, hn => by
    have ha : ∀ q ∈ ps, p.r.f < q.r.f := fun q hq => List.rel_of_pairwise_cons h hq
    have hpj : p.r.f ≠ (j : Int) := fun e => by
      unfold sl at hn
      rw [List.find?_cons_of_pos (by simpa using e)] at hn
      cases hn
    have hn2 : sl ps j = none := by
      unfold sl at hn ⊢
      rwa [List.find?_cons_of_neg (by simpa using hpj)] at hn
    by_cases h1 : p.r.f < r.r.f
    · have e : placeR (p :: ps) r.r.f = placeR ps r.r.f + 1 := by simp [placeR, h1]
      rw [e, insR_succ]
      refine List.Pairwise.cons (fun q hq => ?_) (ins_asc hj ps (List.Pairwise.of_cons h) hn2)
      rcases insR_mem hq with rfl | hq
      · exact h1
      · exact ha _ hq
    · have e : placeR (p :: ps) r.r.f = 0 := by simp [placeR, h1]
      rw [e, insR_zero]
      refine List.Pairwise.cons (fun q hq => ?_) h
      rcases List.mem_cons.1 hq with rfl | hq
      · omega
      · have := ha _ hq; omega
theorem has_sl {f : Int} {j : Nat} (hj : f = (j : Int)) : ∀ (ps : List Pp), AscP ps → hasF ps f (placeR ps f) = (sl ps j).isSome
  | [], _ => by simp [hasF, placeR, sl]
  | p :: ps, h => by
    have ha : ∀ q ∈ ps, p.r.f < q.r.f := fun q hq => List.rel_of_pairwise_cons h hq
    have ih := has_sl hj ps (List.Pairwise.of_cons h)
    by_cases h1 : p.r.f < f
    · have e : placeR (p :: ps) f = placeR ps f + 1 := by simp [placeR, h1]
      have e3 : sl (p :: ps) j = sl ps j := by unfold sl; rw [List.find?_cons_of_neg (by simp; omega)]
      rw [e, e3, ← ih]
      simp [hasF]
    · have e : placeR (p :: ps) f = 0 := by simp [placeR, h1]
      rw [e]
      by_cases h2 : p.r.f = f
      · have e3 : sl (p :: ps) j = some p := by unfold sl; rw [List.find?_cons_of_pos (by simp; omega)]
        rw [e3]
        simp [hasF, h2]
      · have e3 : sl (p :: ps) j = none := by
          unfold sl
          rw [List.find?_eq_none]
          intro q hq
          rcases List.mem_cons.1 hq with rfl | hq
          · simp; omega
          · have := ha _ hq
            simp; omega
        rw [e3]
        simp [hasF, h2]
/-- The same on the reports alone. -/
def insX (rs : List Rp) (k : Nat) (r : Rp) : List Rp := rs.take k ++ r :: rs.drop k
def placeX : List Rp → Int → Nat
  | [], _ => 0
  | p :: ps, f => if p.f < f then placeX ps f + 1 else 0
def hasX (rs : List Rp) (f : Int) (k : Nat) : Bool := decide (k < rs.length) && ((rs.getD k zR).f == f)
theorem placeR_rl : ∀ (ps : List Pp) (f : Int), placeR ps f = placeX (rl ps) f
  | [], f => rfl
  | p :: ps, f => by
    have := placeR_rl ps f
    simp only [placeR, rl, List.map_cons, placeX] at this ⊢
    rw [this]
theorem hasF_rl (ps : List Pp) (f : Int) (k : Nat) : hasF ps f k = hasX (rl ps) f k := by unfold hasF hasX; rw [rl_len, rl_at]
theorem insR_rl (ps : List Pp) (k : Nat) (p : Pp) : rl (insR ps k p) = insX (rl ps) k p.r := by simp [rl, insR, insX, List.map_take, List.map_drop]
/-- What AddReport answers. -/
def addT (n view : Int) (rs : List Rp) (r : Rp) : List Rp × Bool := if repsOkB n view rs && repB n view r then (if hasX rs r.f (placeX rs r.f) then rs else insX rs (placeX rs r.f) r, !hasX rs r.f (placeX rs r.f)) else ([], false)
/-- What ReportBy answers. -/
def byT (n view : Int) (rs : List Rp) (from_ : Int) : Rp × Bool := if repsOkB n view rs then (match rs.find? (fun r => decide (r.f = from_)) with | some r => (r, true) | none => (zR, false)) else (zR, false)
theorem sl_rl (ps : List Pp) (j : Nat) : (sl ps j).map Pp.r = (rl ps).find? (fun r => decide (r.f = (j : Int))) := by
  unfold sl rl
  rw [List.find?_map]
  rfl
end Go.Proofs.Ytcfjmhebhhekbaa.V
