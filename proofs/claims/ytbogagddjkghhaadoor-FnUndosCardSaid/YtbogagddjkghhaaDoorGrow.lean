/-
  A region that draws its order, whose operations change no memory that was there (a store into a block of the region's own apart): each operation is walked once. No statement is proved here.
-/
import Derived.Test.YtbogagddjkghhaaDoorOrder
import Derived.Test.YtbogagddjkghhaaDoorBase
set_option linter.unusedVariables false
namespace Go.Proofs.YtbogagddjkghhaaDoor.B
open Go.RowKit
section
variable {P : Program} {Q : Exit → Act → World → Prop}
/-- The frame once the operations of l have yielded us. -/
def putL : List Oper → (Nat → Value) → Nat → Act → Act
  | [], _, _, a => a
  | o :: l, us, k, a => putL l us (k + 1) (a.put o.dst (us k))
/-- One operation: from what those that it waits for have yielded, to what it yields. -/
def GrowOk (P : Program) (ops : List Oper) (F : (Nat → Value) → Act) (V : Nat → Value → World → Prop) (w0 : World) (i : Nat) (o : Oper) : Prop :=
  ∀ (us : Nat → Value) (w : World), Below w0.heap.size w0 w → (∀ j ∈ deps o, V j (us j) w) → ∀ (Q : Exit → Act → World → Prop) (K : Act → World → Prop),
    (∀ a' w' v, a' = (F us).put o.dst v → Below w.heap.size w w' → V i v w' → K a' w') →
      if Region.wanted o (yielded ops.toArray (F us).tmps) = true then Oper.wp P o (F us) w K Q else K ((F us).put o.dst undef) w
theorem Each.imp {S R : Nat → Oper → Prop} (h : ∀ k o, S k o → R k o) : ∀ {l : List Oper} {k : Nat}, Each S k l → Each R k l
  | [], _, _ => trivial
  | _ :: _, _, hE => ⟨h _ _ hE.1, Each.imp h hE.2⟩
theorem put_comm (a : Act) (d : Option Tmp) (t : Tmp) (u v : Value) (h : d ≠ some t) : (a.put d u).put (some t) v = (a.put (some t) v).put d u := by
  cases d with
  | none => rfl
  | some s =>
    have hne : s ≠ t := fun e => h (by rw [e])
    simp only [Act.put]
    rw [Array.setIfInBounds_comm _ _ hne]
theorem put_put (a : Act) (d : Option Tmp) (u v : Value) : (a.put d u).put d v = a.put d v := by
  cases d with
  | none => rfl
  | some s => simp [Act.put, Array.setIfInBounds_setIfInBounds]
/-- What the slot of an operation holds. -/
def cur (a : Act) (o : Oper) : Value := match o.dst with | some t => a.tmps.getD t undef | none => undef
theorem put_cur (a : Act) (o : Oper) : a.put o.dst (cur a o) = a := by
  unfold cur
  cases h : o.dst with
  | none => rfl
  | some t =>
    have : a.tmps.setIfInBounds t (a.tmps.getD t undef) = a.tmps := by
      apply Array.ext_getElem?
      intro i
      rw [Array.getElem?_setIfInBounds]
      split
      · rename_i e; subst e
        split
        · rename_i hlt
          first | (rw [Array.getElem?_eq_getElem hlt]; rfl) | (rw [Array.getD_eq_getD_getElem?, Array.getElem?_eq_getElem hlt]; rfl)
        · rename_i hlt
          rw [Array.getElem?_eq_none (by omega)]
      · rfl
    simp only [Act.put, this]
theorem putL_cur : ∀ (l : List Oper) (us : Nat → Value) (k : Nat) (a : Act), (∀ i o, l[i]? = some o → us (k + i) = cur a o) → putL l us k a = a
  | [], _, _, _, _ => rfl
  | o :: l, us, k, a, h => by
    have h0 := h 0 o rfl
    rw [Nat.add_zero] at h0
    rw [putL, h0, put_cur]
    exact putL_cur l us (k + 1) a fun i o' ho => by
      have := h (i + 1) o' (by simpa using ho)
      rwa [show k + 1 + i = k + (i + 1) by omega]
/-- No two write one slot. -/
def dstB : List Oper → Bool
  | [] => true
  | o :: l => (match o.dst with | none => true | some t => l.all fun o' => o'.dst != some t) && dstB l
theorem putL_put : ∀ (l : List Oper) (us : Nat → Value) (k : Nat) (a : Act) (t : Tmp) (v : Value), (∀ o ∈ l, o.dst ≠ some t) → (putL l us k a).put (some t) v = putL l us k (a.put (some t) v)
  | [], _, _, _, _, _, _ => rfl
  | o :: l, us, k, a, t, v, h => by
    rw [putL, putL_put l us (k + 1) _ t v (fun o' ho => h o' (List.mem_cons_of_mem _ ho)), put_comm _ _ _ _ _ (h o List.mem_cons_self)]
    rfl
theorem putL_upd : ∀ (l : List Oper) (us : Nat → Value) (k i : Nat) (v : Value) (a : Act), i < k → putL l (upd us i v) k a = putL l us k a
  | [], _, _, _, _, _, _ => rfl
  | o :: l, us, k, i, v, a, h => by
    rw [putL, putL, upd_ne (by omega), putL_upd l us (k + 1) i v _ (by omega)]
theorem putL_at : ∀ (l : List Oper) (us : Nat → Value) (k i : Nat) (v : Value) (a : Act) (o : Oper), dstB l = true → l[i]? = some o → (putL l us k a).put o.dst v = putL l (upd us (k + i) v) k a
  | [], _, _, _, _, _, _, _, h => by simp at h
  | o' :: l, us, k, 0, v, a, o, hd, h => by
    simp at h
    subst h
    simp only [dstB, Bool.and_eq_true] at hd
    show (putL l us (k + 1) (a.put o'.dst (us k))).put o'.dst v = putL l (upd us k v) (k + 1) (a.put o'.dst (upd us k v k))
    rw [upd_same, putL_upd l us (k + 1) k v _ (by omega)]
    cases hdst : o'.dst with
    | none => rfl
    | some t =>
      rw [hdst] at hd
      rw [putL_put l us (k + 1) _ t v (fun o' ho => by
        have := List.all_eq_true.1 hd.1 o' ho
        simpa using this), put_put]
  | o' :: l, us, k, i + 1, v, a, o, hd, h => by
    simp only [dstB, Bool.and_eq_true] at hd
    rw [putL, putL, upd_ne (by omega), putL_at l us (k + 1) i v _ o hd.2 (by simpa using h), show k + 1 + i = k + (i + 1) by omega]
theorem Each.of_at {S : Nat → Oper → Prop} : ∀ {l : List Oper} {k : Nat}, (∀ i o, l[i]? = some o → S (k + i) o) → Each S k l
  | [], _, _ => trivial
  | o :: l, k, h => ⟨by have := h 0 o rfl; rwa [Nat.add_zero] at this, Each.of_at fun i o' ho => by
    have := h (i + 1) o' (by simpa using ho)
    rwa [show k + 1 + i = k + (i + 1) by omega]⟩
/-- **A region that draws its order and only adds memory: each operation walked once.** V: what operation j yields, known at whatever world comes after; F: the frame, by what has been yielded. -/
theorem wp_region_grow {id : Nat} {a : Act} {w : World} {l : List Oper} (F : (Nat → Value) → Act) (hF : ∀ us, putL l us 0 a = F us) (V : Nat → Value → World → Prop)
    (hm : P.follows .mixedOrders = true) (hlow : lowB 0 l = true) (hd : dstB l = true)
    (hV : ∀ j u w1 w2, V j u w1 → Below w1.heap.size w1 w2 → V j u w2)
    (hop : Each (GrowOk P l F V w) 0 l)
    (hend : ∀ us w', (∀ i, i < l.length → V i (us i) w') → Below w.heap.size w w' → Q .normal (F us) w') : (Code.region id l.toArray true).wp P Q a w := by
  obtain rfl : (fun us => putL l us 0 a) = F := funext hF
  refine wp_region_hold (fun us => putL l us 0 a) (fun L us wx => Below w.heap.size w wx ∧ ∀ j, L j → V j (us j) wx) (fun i => match l[i]? with | some o => cur a o | none => undef) hm hlow ?_ ?_ ⟨(Below.refl _ _).drew, fun _ h => h.elim⟩ (hop.imp fun i o h L us wx hnL hdep _ hI K hK => ?_) (fun L us w' hL hI => hend us w' (fun i hi => hI.2 i (hL i hi)) hI.1)
  · exact (putL_cur l _ 0 a fun i o ho => by rw [Nat.zero_add, ho]).symm
  · exact Each.of_at fun i o ho us v => by
      have := putL_at l us 0 i v a o hd ho
      rwa [Nat.zero_add] at this ⊢
  refine h us wx hI.1 (fun j hj => hI.2 j (hdep j hj)) Q K fun a' w' v ha hb hv => hK a' w' v ha ⟨hI.1.trans (hb.mono hI.1.size), fun j hj => ?_⟩
  by_cases e : j = i
  · subst e; rw [upd_same]; exact hv
  · rw [upd_ne e]; exact hV j _ _ _ (hI.2 j (hj.resolve_left e)) hb
end
end Go.Proofs.YtbogagddjkghhaaDoor.B
