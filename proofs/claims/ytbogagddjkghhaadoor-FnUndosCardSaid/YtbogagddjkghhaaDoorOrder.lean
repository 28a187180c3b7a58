/-
  A region that draws its order, walked by what holds between any two of its operations: each operation is walked once, whatever the order. No statement is proved here.
-/
import Derived.Test.YtbogagddjkghhaaDoorBase
import Derived.Orders
import Derived.RegionTactic
set_option linter.unusedVariables false
namespace Go.Proofs.YtbogagddjkghhaaDoor.B
open Go.RowKit
section
variable {P : Program} {Q : Exit → Act → World → Prop}
def upd (us : Nat → Value) (i : Nat) (v : Value) : Nat → Value := fun j => if j = i then v else us j
theorem upd_same (us : Nat → Value) (i : Nat) (v : Value) : upd us i v i = v := by simp [upd]
theorem upd_ne {us : Nat → Value} {i j : Nat} {v : Value} (h : j ≠ i) : upd us i v j = us j := by simp [upd, h]
/-- How many have not come up yet. -/
def unl (l : List Bool) : Nat := (l.filter (!·)).length
theorem unl_set : ∀ (l : List Bool) (i : Nat), l[i]? = some false → unl (l.set i true) + 1 = unl l
  | [], i, h => by simp at h
  | b :: l, 0, h => by simp at h; subst h; simp [unl]
  | b :: l, i + 1, h => by
    have := unl_set l i (by simpa using h)
    cases b <;> simp [unl] at this ⊢ <;> omega
theorem unl_zero {l : List Bool} (h : unl l = 0) (i : Nat) : l[i]? ≠ some false := fun e => by
  have := unl_set l i e
  omega
theorem got_false {l : Array Bool} {i : Nat} (h : l.getD i true = false) : l.toList[i]? = some false := by
  rw [Array.getD_eq_getD_getElem?] at h
  rw [Array.getElem?_toList]
  rcases e : l[i]? with _ | b
  · rw [e] at h; simp at h
  · rw [e] at h; simp at h; rw [h]
theorem wpAny_hold {ops : Array Oper} {md : Region.Mode} (I : Array Bool → Act → World → Prop)
    (hstep : ∀ listed a w i, i ∈ Region.ready md ops listed → I listed a w → wpOp P ops Q i (I (listed.setIfInBounds i true)) a w)
    (hend : ∀ listed a w, Region.ready md ops listed = [] → I listed a w → Q .normal a w) :
    ∀ (fuel : Nat) (listed : Array Bool) (a : Act) (w : World), unl listed.toList ≤ fuel → I listed a w → wpAny P md ops Q fuel listed a w
  | 0, listed, a, w, hc, h => by
    have hr : Region.ready md ops listed = [] := by
      rw [List.eq_nil_iff_forall_not_mem]
      intro i hi
      exact unl_zero (by omega) i (got_false (mem_ready.1 hi).1)
    exact ⟨hr, hend listed a w hr h⟩
  | fuel + 1, listed, a, w, hc, h => by
    refine ⟨fun hr => hend listed a w hr h, fun i hi => wpOp_mono (fun a' w' h' => ?_) (hstep listed a w i hi h)⟩
    refine wpAny_hold I hstep hend fuel _ a' w' ?_ h'
    have := unl_set listed.toList i (got_false (mem_ready.1 hi).1)
    rw [Array.toList_setIfInBounds]
    omega
/-- What an operation waits for. -/
def deps (o : Oper) : List Nat := (o.after.toList.filter (Region.binds .any)).map (·.on)
def lowB : Nat → List Oper → Bool
  | _, [] => true
  | k, o :: l => (deps o).all (fun j => decide (j < k)) && lowB (k + 1) l
theorem lowB_at : ∀ {l : List Oper} {k i : Nat} {o : Oper}, lowB k l = true → l[i]? = some o → ∀ j ∈ deps o, j < k + i
  | [], _, _, _, _, h => by simp at h
  | o' :: l, k, 0, o, hB, h => by
    simp only [lowB, Bool.and_eq_true] at hB
    simp at h; subst h
    intro j hj
    have := List.all_eq_true.1 hB.1 j hj
    simpa using this
  | o' :: l, k, i + 1, o, hB, h => by
    simp only [lowB, Bool.and_eq_true] at hB
    intro j hj
    have := lowB_at hB.2 (by simpa using h) j hj
    omega
/-- Operation k waits, in n steps at most, for operation j. -/
def waitsB (ops : List Oper) : Nat → Nat → Nat → Bool
  | 0, k, j => j == k
  | n + 1, k, j => j == k || (match ops[k]? with | some o => (deps o).any fun d => waitsB ops n d j | none => false)
/-- L holds of what an operation waits for. -/
def Shut (ops : List Oper) (L : Nat → Prop) : Prop := ∀ k o, ops[k]? = some o → L k → ∀ j ∈ deps o, L j
theorem Shut.far {ops : List Oper} {L : Nat → Prop} (h : Shut ops L) : ∀ (n k j : Nat), waitsB ops n k j = true → L k → L j
  | 0, k, j, hB, hk => by simp [waitsB] at hB; rw [hB]; exact hk
  | n + 1, k, j, hB, hk => by
    simp only [waitsB, Bool.or_eq_true, beq_iff_eq] at hB
    rcases hB with rfl | hB
    · exact hk
    · rcases e : ops[k]? with _ | o
      · rw [e] at hB; simp at hB
      · rw [e] at hB
        obtain ⟨d, hd, hB⟩ := List.any_eq_true.1 hB
        exact h.far n d j hB (h k o e hk d hd)
/-- One operation: from what holds, whatever has come up, to what holds behind it. -/
def StepOk (P : Program) (Q : Exit → Act → World → Prop) (ops : List Oper) (F : (Nat → Value) → Act) (I : (Nat → Prop) → (Nat → Value) → World → Prop) (i : Nat) (o : Oper) : Prop :=
  ∀ (L : Nat → Prop) (us : Nat → Value) (w : World), ¬ L i → (∀ j ∈ deps o, L j) → Shut ops L → I L us w → ∀ K : Act → World → Prop,
    (∀ a' w' v, a' = (F us).put o.dst v → I (fun j => j = i ∨ L j) (upd us i v) w' → K a' w') →
      if Region.wanted o (yielded ops.toArray (F us).tmps) = true then Oper.wp P o (F us) w K Q else K ((F us).put o.dst undef) w
def Each (S : Nat → Oper → Prop) : Nat → List Oper → Prop
  | _, [] => True
  | k, o :: l => S k o ∧ Each S (k + 1) l
theorem Each.nil {S : Nat → Oper → Prop} {k : Nat} : Each S k [] := trivial
theorem Each.cons {S : Nat → Oper → Prop} {k : Nat} {o : Oper} {l : List Oper} (h : S k o) (h2 : Each S (k + 1) l) : Each S k (o :: l) := ⟨h, h2⟩
theorem Each.at_ {S : Nat → Oper → Prop} : ∀ {l : List Oper} {k i : Nat} {o : Oper}, Each S k l → l[i]? = some o → S (k + i) o
  | [], _, _, _, _, h => by simp at h
  | o' :: l, k, 0, o, hE, h => by simp at h; subst h; exact hE.1
  | o' :: l, k, i + 1, o, hE, h => by
    have := Each.at_ hE.2 (show l[i]? = some o by simpa using h)
    rwa [show k + 1 + i = k + (i + 1) by omega] at this
/-- **A region that draws its order, each operation walked once.** F: the frame, by what the operations have yielded; I: what holds once those of L have come up. -/
theorem wp_region_hold {id : Nat} {a : Act} {w : World} {l : List Oper} (F : (Nat → Value) → Act) (I : (Nat → Prop) → (Nat → Value) → World → Prop) (us0 : Nat → Value)
    (hm : P.follows .mixedOrders = true) (hlow : lowB 0 l = true) (ha : a = F us0)
    (hput : Each (fun i o => ∀ us v, (F us).put o.dst v = F (upd us i v)) 0 l)
    (h0 : I (fun _ => False) us0 w.drew)
    (hop : Each (StepOk P Q l F I) 0 l)
    (hend : ∀ (L : Nat → Prop) us w', (∀ i, i < l.length → L i) → I L us w' → Q .normal (F us) w') : (Code.region id l.toArray true).wp P Q a w := by
  refine wp_region_any hm ?_
  let J : Array Bool → Act → World → Prop := fun listed a' w' => listed.size = l.length ∧ Shut l (fun j => listed.getD j false = true) ∧ ∃ us, a' = F us ∧ I (fun j => listed.getD j false = true) us w'
  have hsz : l.toArray.size = l.length := by simp
  refine wpAny_hold J ?_ ?_ _ _ a { w with drawn := w.drawn + 1 } ?_ ?_
  · rintro listed a' w' i hi ⟨hs, hsh, us, rfl, hI⟩
    obtain ⟨hun, o, ho, hall⟩ := mem_ready.1 hi
    have hol : l[i]? = some o := by simpa using ho
    have hil : i < l.length := by
      rcases Nat.lt_or_ge i l.length with h | h
      · exact h
      · rw [List.getElem?_eq_none h] at hol; cases hol
    have hnL : ¬ listed.getD i false = true := by
      rw [Array.getD_eq_getD_getElem?] at hun ⊢
      rw [Array.getElem?_eq_getElem (by omega)] at hun ⊢
      simp at hun ⊢
      exact hun
    have hdep : ∀ j ∈ deps o, listed.getD j false = true := fun j hj => by
      obtain ⟨e, he, rfl⟩ := List.mem_map.1 hj
      obtain ⟨he1, he2⟩ := List.mem_filter.1 he
      exact hall e (by simpa using he1) he2
    have hset : ∀ j, (listed.setIfInBounds i true).getD j false = true ↔ (j = i ∨ listed.getD j false = true) := fun j => by
      rw [Array.getD_eq_getD_getElem?, Array.getD_eq_getD_getElem?]
      by_cases e : j = i
      · subst e
        rw [Array.getElem?_setIfInBounds_self_of_lt (by omega)]
        simp
      · rw [Array.getElem?_setIfInBounds_ne (Ne.symm e)]
        simp [e]
    have hfun : (fun j => (listed.setIfInBounds i true).getD j false = true) = fun j => j = i ∨ listed.getD j false = true := funext fun j => propext (hset j)
    have h1 := Each.at_ hop hol
    rw [Nat.zero_add] at h1
    have hp := Each.at_ hput hol
    rw [Nat.zero_add] at hp
    refine wpOp_step ho fun K hK => h1 _ us w' hnL hdep hsh hI K fun a'' w'' v ha'' hI' => hK _ _ ⟨by simpa using hs, ?_, upd us i v, ?_, ?_⟩
    · intro k ok hk hLk j hj
      rw [hset] at hLk ⊢
      rcases hLk with rfl | hLk
      · rw [hol] at hk; injection hk with hk; subst hk
        exact .inr (hdep j hj)
      · exact .inr (hsh k ok hk hLk j hj)
    · rw [ha'', hp]
    · rw [hfun]; exact hI'
  · rintro listed a' w' hr ⟨hs, hsh, us, rfl, hI⟩
    refine hend _ us w' (fun i => ?_) hI
    induction i using Nat.strongRecOn with
    | _ i ih =>
      intro hi
      rcases hg : listed.getD i false with _ | _
      · exfalso
        have ho : l[i]? = some l[i] := List.getElem?_eq_getElem hi
        have hun : listed.getD i true = false := by
          rw [Array.getD_eq_getD_getElem?] at hg ⊢
          rw [Array.getElem?_eq_getElem (by omega)] at hg ⊢
          simp at hg ⊢
          exact hg
        have : i ∈ Region.ready .any l.toArray listed := mem_ready.2 ⟨hun, l[i], by simp, fun e he hb => by
          have hd : e.on ∈ deps l[i] := List.mem_map.2 ⟨e, List.mem_filter.2 ⟨by simpa using he, hb⟩, rfl⟩
          have hlt := lowB_at hlow ho e.on hd
          exact ih e.on (by omega) (by omega)⟩
        rw [hr] at this
        simp at this
      · rfl
  · have : ∀ n, unl (List.replicate n false) = n := fun n => by
      induction n with
      | zero => rfl
      | succ n ih => simp [unl, List.replicate_succ] at ih ⊢
    rw [Array.toList_replicate, this]
    exact Nat.le_refl _
  · refine ⟨by simp, fun k o hk hL => ?_, us0, ha, ?_⟩
    · replace hL : (Array.replicate l.toArray.size false).getD k false = true := hL
      rw [Array.getD_eq_getD_getElem?] at hL
      rcases e : (Array.replicate l.toArray.size false)[k]? with _ | b
      · rw [e] at hL; simp at hL
      · rw [e] at hL; simp at hL; subst hL
        rw [Array.getElem?_replicate] at e
        split at e <;> simp at e
    · have : (fun j => (Array.replicate l.toArray.size false).getD j false = true) = fun _ => False := funext fun j => propext ⟨fun h => by
        rw [Array.getD_eq_getD_getElem?, Array.getElem?_replicate] at h
        split at h <;> simp at h, False.elim⟩
      rw [this]; exact h0
end
end Go.Proofs.YtbogagddjkghhaaDoor.B
