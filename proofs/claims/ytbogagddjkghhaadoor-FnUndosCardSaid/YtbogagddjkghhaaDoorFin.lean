/-
  A region that draws its order, whose operations only add memory but for the last, which waits for all the others: each operation is walked once. No statement is proved here.
-/
import Derived.Test.YtbogagddjkghhaaDoorGrow
set_option linter.unusedVariables false
namespace Go.Proofs.YtbogagddjkghhaaDoor.B
open Go.RowKit
section
variable {P : Program} {Q : Exit → Act → World → Prop}
/-- The last operation: from what all the others have yielded. -/
def LastOk (P : Program) (ops : List Oper) (F : (Nat → Value) → Act) (V : Nat → Value → World → Prop) (R : (Nat → Value) → World → Prop) (w0 : World) (n : Nat) (o : Oper) : Prop :=
  ∀ (us : Nat → Value) (w : World), Below w0.heap.size w0 w → (∀ j, j < n → V j (us j) w) → ∀ (Q : Exit → Act → World → Prop) (K : Act → World → Prop),
    (∀ a' w' v, a' = (F us).put o.dst v → R (upd us n v) w' → K a' w') →
      if Region.wanted o (yielded ops.toArray (F us).tmps) = true then Oper.wp P o (F us) w K Q else K ((F us).put o.dst undef) w
def FinOk (P : Program) (ops : List Oper) (F : (Nat → Value) → Act) (V : Nat → Value → World → Prop) (R : (Nat → Value) → World → Prop) (w0 : World) (n : Nat) (i : Nat) (o : Oper) : Prop :=
  (i ≠ n → GrowOk P ops F V w0 i o) ∧ (i = n → LastOk P ops F V R w0 n o)
theorem wp_region_fin {id : Nat} {a : Act} {w : World} {l : List Oper} (F : (Nat → Value) → Act) (hF : ∀ us, putL l us 0 a = F us) (V : Nat → Value → World → Prop) (R : (Nat → Value) → World → Prop) (n : Nat)
    (hm : P.follows .mixedOrders = true) (hlow : lowB 0 l = true) (hd : dstB l = true) (hn : l.length = n + 1) (hw : (List.range n).all (fun j => waitsB l n n j) = true)
    (hV : ∀ j u w1 w2, V j u w1 → Below w1.heap.size w1 w2 → V j u w2)
    (hop : Each (FinOk P l F V R w n) 0 l)
    (hend : ∀ us w', R us w' → Q .normal (F us) w') : (Code.region id l.toArray true).wp P Q a w := by
  obtain rfl : (fun us => putL l us 0 a) = F := funext hF
  refine wp_region_hold (fun us => putL l us 0 a) (fun L us wx => (L n → R us wx) ∧ (¬ L n → Below w.heap.size w wx ∧ ∀ j, L j → V j (us j) wx)) (fun i => match l[i]? with | some o => cur a o | none => undef) hm hlow ?_ ?_ ⟨fun h => h.elim, fun _ => ⟨(Below.refl _ _).drew, fun _ h => h.elim⟩⟩ (Each.of_at fun i o ho L us wx hnL hdep hsh hI K hK => ?_) (fun L us w' hL hI => hend us w' (hI.1 (hL n (by omega))))
  · exact (putL_cur l _ 0 a fun i o ho => by rw [Nat.zero_add, ho]).symm
  · exact Each.of_at fun i o ho us v => by
      have := putL_at l us 0 i v a o hd ho
      rwa [Nat.zero_add] at this ⊢
  rw [Nat.zero_add] at hnL hK
  have h := Each.at_ hop ho
  rw [Nat.zero_add] at h
  by_cases hi : i = n
  · have hN : ¬ L n := by rw [← hi]; exact hnL
    obtain ⟨hB, hv⟩ := hI.2 hN
    refine h.2 hi us wx hB (fun j hj => hv j ?_) Q K fun a' w' v ha hr => hK a' w' v ha ⟨fun _ => by rw [hi]; exact hr, fun hh => absurd (.inl hi.symm) hh⟩
    have hwj := List.all_eq_true.1 hw j (List.mem_range.2 hj)
    cases n with
    | zero => omega
    | succ m =>
      simp only [waitsB, Bool.or_eq_true, beq_iff_eq] at hwj
      rcases hwj with e | hwj
      · omega
      · rcases e : l[m + 1]? with _ | o'
        · rw [e] at hwj; simp at hwj
        · rw [e] at hwj
          obtain ⟨d, hd2, hB2⟩ := List.any_eq_true.1 hwj
          have e2 : o = o' := by rw [hi, e] at ho; exact (Option.some.inj ho).symm
          exact hsh.far m d j hB2 (hdep d (by rw [e2]; exact hd2))
  · have hN : ¬ (i = n) := hi
    by_cases hLn : L n
    · exfalso
      have hil : i < l.length := (List.getElem?_eq_some_iff.1 ho).1
      exact hnL (hsh.far n n i (List.all_eq_true.1 hw i (List.mem_range.2 (by omega))) hLn)
    · obtain ⟨hB, hv⟩ := hI.2 hLn
      refine h.1 hi us wx hB (fun j hj => hv j (hdep j hj)) Q K fun a' w' v ha hb hvv => hK a' w' v ha ⟨fun hh => absurd (hh.resolve_left (Ne.symm hi)) hLn, fun _ => ⟨hB.trans (hb.mono hB.size), fun j hj => ?_⟩⟩
      by_cases e : j = i
      · subst e; rw [upd_same]; exact hvv
      · rw [upd_ne e]; exact hV j _ _ _ (hv j (hj.resolve_left e)) hb
end
end Go.Proofs.YtbogagddjkghhaaDoor.B
