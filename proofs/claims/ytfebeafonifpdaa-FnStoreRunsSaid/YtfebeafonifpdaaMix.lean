/-
  A region that draws its order: operations that only add memory, one that writes behind them, and others that only hand on a part of what one operation yielded, before or behind the writer. Each is walked once. No statement is proved here.
-/
import Derived.Test.YtfebeafonifpdaaGrow
set_option linter.unusedVariables false
namespace Go.Proofs.Ytfebeafonifpdaa.B
open Go.RowKit
section
variable {P : Program} {Q : Exit → Act → World → Prop}
/-- The writer: from what those before it have yielded. -/
def WriteOk (P : Program) (ops : List Oper) (F : (Nat → Value) → Act) (V : Nat → Value → World → Prop) (R : (Nat → Value) → World → Prop) (w0 : World) (pre : List Nat) (o : Oper) : Prop :=
  ∀ (us : Nat → Value) (w : World), Below w0.heap.size w0 w → (∀ j, pre.contains j = true → V j (us j) w) → ∀ (Q : Exit → Act → World → Prop) (K : Act → World → Prop),
    (∀ a' w' v, a' = (F us).put o.dst v → R us w' → K a' w') →
      if Region.wanted o (yielded ops.toArray (F us).tmps) = true then Oper.wp P o (F us) w K Q else K ((F us).put o.dst undef) w
/-- One that hands on a part of what operation r yielded. -/
def PassOk (P : Program) (ops : List Oper) (F : (Nat → Value) → Act) (S : Value → Prop) (post : Nat → Bool) (ψ : Nat → Value → Value) (r i : Nat) (o : Oper) : Prop :=
  ∀ (us : Nat → Value) (w : World), S (us r) → (∀ j ∈ deps o, post j = true → us j = ψ j (us r)) → ∀ (Q : Exit → Act → World → Prop) (K : Act → World → Prop),
    (∀ a', a' = (F us).put o.dst (ψ i (us r)) → K a' w) →
      if Region.wanted o (yielded ops.toArray (F us).tmps) = true then Oper.wp P o (F us) w K Q else K ((F us).put o.dst undef) w
/-- Which operations only hand on. -/
def postB (pre : List Nat) (n : Nat) (j : Nat) : Bool := !pre.contains j && !(j == n)
def MixOk (P : Program) (ops : List Oper) (F : (Nat → Value) → Act) (V : Nat → Value → World → Prop) (R : (Nat → Value) → World → Prop) (S : Value → Prop) (ψ : Nat → Value → Value) (w0 : World) (pre : List Nat) (n r : Nat) (i : Nat) (o : Oper) : Prop :=
  (pre.contains i = true → GrowOk P ops F V w0 i o) ∧ (i = n → WriteOk P ops F V R w0 pre o) ∧ (postB pre n i = true → PassOk P ops F S (postB pre n) ψ r i o)
theorem waits_dep {ops : List Oper} {i j : Nat} {o : Oper} (ho : ops[i]? = some o) (hij : j ≠ i) {m : Nat} (h : waitsB ops (m + 1) i j = true) : ∃ d ∈ deps o, waitsB ops m d j = true := by
  simp only [waitsB, Bool.or_eq_true, beq_iff_eq] at h
  rcases h with e | h
  · exact absurd e hij
  · rw [ho] at h
    obtain ⟨d, hd, hB⟩ := List.any_eq_true.1 h
    exact ⟨d, hd, hB⟩
theorem wp_region_mix {id : Nat} {a : Act} {w : World} {l : List Oper} (F : (Nat → Value) → Act) (hF : ∀ us, putL l us 0 a = F us) (V : Nat → Value → World → Prop) (R : (Nat → Value) → World → Prop) (S : Value → Prop) (ψ : Nat → Value → Value) (pre : List Nat) (n r : Nat)
    (hm : P.follows .mixedOrders = true) (hlow : lowB 0 l = true) (hd : dstB l = true)
    (hpn : pre.contains n = false) (hpr : pre.contains r = true)
    (hw : pre.all (fun j => waitsB l 8 n j) = true)
    (hcl : (List.range l.length).all (fun i => !pre.contains i || (match l[i]? with | some o => (deps o).all (fun j => pre.contains j) | none => true)) = true)
    (hq : (List.range l.length).all (fun i => pre.contains i || i == n || waitsB l 8 i r) = true)
    (hV : ∀ j u w1 w2, V j u w1 → Below w1.heap.size w1 w2 → V j u w2)
    (hVS : ∀ u w, V r u w → S u) (hRS : ∀ us w, R us w → S (us r)) (hRc : ∀ us i v w, pre.contains i = false → R us w → R (upd us i v) w)
    (hop : Each (MixOk P l F V R S ψ w pre n r) 0 l)
    (hend : ∀ us w', R us w' → (∀ j, j < l.length → postB pre n j = true → us j = ψ j (us r)) → Q .normal (F us) w') (hnl : n < l.length) : (Code.region id l.toArray true).wp P Q a w := by
  obtain rfl : (fun us => putL l us 0 a) = F := funext hF
  have hrn : r ≠ n := fun e => by rw [e, hpn] at hpr; cases hpr
  refine wp_region_hold (fun us => putL l us 0 a) (fun L us wx => (¬ L n → Below w.heap.size w wx ∧ ∀ j, pre.contains j = true → L j → V j (us j) wx) ∧ (L n → R us wx) ∧ (∀ j, j < l.length → postB pre n j = true → L j → L r ∧ us j = ψ j (us r))) (fun i => match l[i]? with | some o => cur a o | none => undef) hm hlow ?_ ?_ ⟨fun _ => ⟨(Below.refl _ _).drew, fun _ _ h => h.elim⟩, fun h => h.elim, fun _ _ _ h => h.elim⟩ (Each.of_at fun i o ho L us wx hnL hdep hsh hI K hK => ?_) (fun L us w' hL hI => hend us w' (hI.2.1 (hL n hnl)) (fun j hj hp => (hI.2.2 j hj hp (hL j hj)).2))
  · exact (putL_cur l _ 0 a fun i o ho => by rw [Nat.zero_add, ho]).symm
  · exact Each.of_at fun i o ho us v => by
      have := putL_at l us 0 i v a o hd ho
      rwa [Nat.zero_add] at this ⊢
  rw [Nat.zero_add] at hnL hK
  have h := Each.at_ hop ho
  rw [Nat.zero_add] at h
  have hil : i < l.length := (List.getElem?_eq_some_iff.1 ho).1
  rcases hpi : pre.contains i with _ | _
  · by_cases hi : i = n
    · -- the writer
      have hN : ¬ L n := by rw [← hi]; exact hnL
      obtain ⟨hB, hv⟩ := hI.1 hN
      refine h.2.1 hi us wx hB (fun j hj => hv j hj ?_) Q K fun a' w' v ha hr => hK a' w' v ha ⟨fun hh => absurd (.inl hi.symm) hh, fun _ => hRc us i v w' hpi hr, fun j hj hp hl => ?_⟩
      · have hwj := List.all_eq_true.1 hw j (by simpa using hj)
        have hji : j ≠ i := fun e => by rw [e, hpi] at hj; cases hj
        rw [← hi] at hwj
        obtain ⟨d, hd2, hB2⟩ := waits_dep ho hji hwj
        exact hsh.far _ d j hB2 (hdep d hd2)
      · have hji : j ≠ i := fun e => by rw [e, hi] at hp; simp [postB] at hp
        obtain ⟨h1, h2⟩ := hI.2.2 j hj hp (hl.resolve_left hji)
        refine ⟨.inr h1, ?_⟩
        rw [upd_ne hji, upd_ne (show r ≠ i from hi ▸ hrn), h2]
    · -- one that hands on
      have hpost : postB pre n i = true := by simp only [postB, hpi]; simpa using hi
      have hri : r ≠ i := fun e => by rw [e, hpi] at hpr; cases hpr
      have hLr : L r := by
        have hqi := List.all_eq_true.1 hq i (List.mem_range.2 hil)
        rw [hpi] at hqi
        simp only [Bool.false_or, Bool.or_eq_true, beq_iff_eq] at hqi
        obtain ⟨d, hd2, hB2⟩ := waits_dep ho hri (hqi.resolve_left hi)
        exact hsh.far _ d r hB2 (hdep d hd2)
      have hS : S (us r) := by
        by_cases hLn : L n
        · exact hRS us wx (hI.2.1 hLn)
        · exact hVS _ _ ((hI.1 hLn).2 r hpr hLr)
      refine h.2.2 hpost us wx hS (fun j hj hp => (hI.2.2 j (by have := lowB_at hlow ho j hj; omega) hp (hdep j hj)).2) Q K fun a' ha => hK a' wx _ ha ⟨fun hh => ?_, fun hh => hRc us i _ wx hpi (hI.2.1 (hh.resolve_left (Ne.symm hi))), fun j hj hp hl => ?_⟩
      · obtain ⟨hB, hv⟩ := hI.1 (fun e => hh (.inr e))
        refine ⟨hB, fun j hj hl => ?_⟩
        have hji : j ≠ i := fun e => by rw [e, hpi] at hj; cases hj
        rw [upd_ne hji]
        exact hv j hj (hl.resolve_left hji)
      · rw [upd_ne hri]
        by_cases hji : j = i
        · subst hji
          exact ⟨.inr hLr, upd_same _ _ _⟩
        · obtain ⟨h1, h2⟩ := hI.2.2 j hj hp (hl.resolve_left hji)
          exact ⟨.inr h1, by rw [upd_ne hji, h2]⟩
  · -- one that adds
    have hin : i ≠ n := fun e => by rw [e, hpn] at hpi; cases hpi
    have hN : ¬ L n := fun hLn => hnL (hsh.far _ n i (List.all_eq_true.1 hw i (by simpa using hpi)) hLn)
    obtain ⟨hB, hv⟩ := hI.1 hN
    have hci := List.all_eq_true.1 hcl i (List.mem_range.2 hil)
    rw [hpi, ho] at hci
    simp only [Bool.not_true, Bool.false_or] at hci
    refine h.1 hpi us wx hB (fun j hj => hv j (List.all_eq_true.1 hci j hj) (hdep j hj)) Q K fun a' w' v ha hb hvv => hK a' w' v ha ⟨fun hh => ⟨hB.trans (hb.mono hB.size), fun j hj hl => ?_⟩, fun hh => absurd (hh.resolve_left (Ne.symm hin)) hN, fun j hj hp hl => ?_⟩
    · by_cases e : j = i
      · subst e; rw [upd_same]; exact hvv
      · rw [upd_ne e]; exact hV j _ _ _ (hv j hj (hl.resolve_left e)) hb
    · have hji : j ≠ i := fun e => by rw [e] at hp; unfold postB at hp; rw [hpi] at hp; cases hp
      obtain ⟨h1, h2⟩ := hI.2.2 j hj hp (hl.resolve_left hji)
      have hri : r ≠ i := fun e => hnL (e ▸ h1)
      exact ⟨.inr h1, by rw [upd_ne hji, upd_ne hri, h2]⟩
end
end Go.Proofs.Ytfebeafonifpdaa.B
