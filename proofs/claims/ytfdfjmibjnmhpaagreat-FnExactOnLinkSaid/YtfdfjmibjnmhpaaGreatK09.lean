/-
  A region that draws its order, whose operations change no memory that was there (a store into a block of the region's own apart): each operation is walked once. A region that draws its order, whose operations only add memory but for the last, which waits for all the others: each operation is walked once. What a state would report, of the model and of the program: contracts. Rows of numbers: how they read, comparison, marks, and rows of the call's own. What the helpers markVoteS and heldVoteS do: contracts. Rows of elements of one size, each with parts that lie elsewhere: how they read, how they are copied one by one, how much they hold. Generic; no statement is proved here. No statement is proved here.
-/
import Derived.Test.YtfdfjmibjnmhpaaGreatK08
import Derived.Test.YtfdfjmibjnmhpaaGreatK01
import Derived.Test.YtfdfjmibjnmhpaaGreatK05
import Derived.Test.YtfdfjmibjnmhpaaGreatK02
import Derived.Deep.AppendLies
import Derived.Deep.RegionHeld3
set_option linter.unusedVariables false
set_option maxRecDepth 100000
namespace Go.Proofs.YtfdfjmibjnmhpaaGreat.B
open Go.RowKit
section
variable {P : Program} {Q : Exit → Act → World → Prop}
/-- The frame once the operations of l have yielded us. -/
def putL : List Oper → (Nat → Value) → Nat → Act → Act
  | [], _, _, a => a
  | o :: l, us, k, a => putL l us (k + 1) (a.put o.dst (us k))
/-- One operation: from what those that it waits for have yielded, to what it yields. -/
def GrowOk (P : Program) (ops : List Oper) (F : (Nat → Value) → Act) (V : Nat → Value → World → Prop) (w0 : World) (i : Nat) (o : Oper) : Prop :=
  ∀ (us : Nat → Value) (w : World), Below w0.heap.size w0 w → (∀ j ∈ deps o, V j (us j) w) → ∀ (Q : Exit → Act → World → Prop) (K : Act → World → Prop),
    (∀ a' w' v, a' = (F us).put o.dst v → Below w.heap.size w w' → V i v w' → K a' w') →
      if Region.wanted o (yielded ops.toArray (F us).tmps) = true then Oper.wp P o (F us) w K Q else K ((F us).put o.dst undef) w
theorem Each.imp {S R : Nat → Oper → Prop} (h : ∀ k o, S k o → R k o) : ∀ {l : List Oper} {k : Nat}, Each S k l → Each R k l
  | [], _, _ => trivial
  | _ :: _, _, hE => ⟨h _ _ hE.1, Each.imp h hE.2⟩
theorem put_comm (a : Act) (d : Option Tmp) (t : Tmp) (u v : Value) (h : d ≠ some t) : (a.put d u).put (some t) v = (a.put (some t) v).put d u := by
  cases d with
  | none => rfl
  | some s =>
    have hne : s ≠ t := fun e => h (by rw [e])
    simp only [Act.put]
    rw [Array.setIfInBounds_comm _ _ hne]
theorem put_put (a : Act) (d : Option Tmp) (u v : Value) : (a.put d u).put d v = a.put d v := by
  cases d with
  | none => rfl
  | some s => simp [Act.put, Array.setIfInBounds_setIfInBounds]
/-- What the slot of an operation holds. -/
def cur (a : Act) (o : Oper) : Value := match o.dst with | some t => a.tmps.getD t undef | none => undef
theorem put_cur (a : Act) (o : Oper) : a.put o.dst (cur a o) = a := by
  unfold cur
  cases h : o.dst with
  | none => rfl
  | some t =>
    have : a.tmps.setIfInBounds t (a.tmps.getD t undef) = a.tmps := by
      apply Array.ext_getElem?
      intro i
      rw [Array.getElem?_setIfInBounds]
      split
      · rename_i e; subst e
        split
        · rename_i hlt
          first | (rw [Array.getElem?_eq_getElem hlt]; rfl) | (rw [Array.getD_eq_getD_getElem?, Array.getElem?_eq_getElem hlt]; rfl)
        · rename_i hlt
          rw [Array.getElem?_eq_none (by omega)]
      · rfl
    simp only [Act.put, this]
theorem putL_cur : ∀ (l : List Oper) (us : Nat → Value) (k : Nat) (a : Act), (∀ i o, l[i]? = some o → us (k + i) = cur a o) → putL l us k a = a
  | [], _, _, _, _ => rfl
  | o :: l, us, k, a, h => by
    have h0 := h 0 o rfl
    rw [Nat.add_zero] at h0
    rw [putL, h0, put_cur]
    exact putL_cur l us (k + 1) a fun i o' ho => by
      have := h (i + 1) o' (by simpa using ho)
      rwa [show k + 1 + i = k + (i + 1) by omega]
/-- No two write one slot. -/
def dstB : List Oper → Bool
  | [] => true
  | o :: l => (match o.dst with | none => true | some t => l.all fun o' => o'.dst != some t) && dstB l
theorem putL_put : ∀ (l : List Oper) (us : Nat → Value) (k : Nat) (a : Act) (t : Tmp) (v : Value), (∀ o ∈ l, o.dst ≠ some t) → (putL l us k a).put (some t) v = putL l us k (a.put (some t) v)
  | [], _, _, _, _, _, _ => rfl
  | o :: l, us, k, a, t, v, h => by
    rw [putL, putL_put l us (k + 1) _ t v (fun o' ho => h o' (List.mem_cons_of_mem _ ho)), put_comm _ _ _ _ _ (h o List.mem_cons_self)]
    rfl
theorem putL_upd : ∀ (l : List Oper) (us : Nat → Value) (k i : Nat) (v : Value) (a : Act), i < k → putL l (upd us i v) k a = putL l us k a
  | [], _, _, _, _, _, _ => rfl
  | o :: l, us, k, i, v, a, h => by
    rw [putL, putL, upd_ne (by omega), putL_upd l us (k + 1) i v _ (by omega)]
theorem putL_at : ∀ (l : List Oper) (us : Nat → Value) (k i : Nat) (v : Value) (a : Act) (o : Oper), dstB l = true → l[i]? = some o → (putL l us k a).put o.dst v = putL l (upd us (k + i) v) k a
  | [], _, _, _, _, _, _, _, h => by simp at h
  | o' :: l, us, k, 0, v, a, o, hd, h => by
    simp at h
    subst h
    simp only [dstB, Bool.and_eq_true] at hd
    show (putL l us (k + 1) (a.put o'.dst (us k))).put o'.dst v = putL l (upd us k v) (k + 1) (a.put o'.dst (upd us k v k))
    rw [upd_same, putL_upd l us (k + 1) k v _ (by omega)]
    cases hdst : o'.dst with
    | none => rfl
    | some t =>
      rw [hdst] at hd
      rw [putL_put l us (k + 1) _ t v (fun o' ho => by
        have := List.all_eq_true.1 hd.1 o' ho
        simpa using this), put_put]
  | o' :: l, us, k, i + 1, v, a, o, hd, h => by
    simp only [dstB, Bool.and_eq_true] at hd
    rw [putL, putL, upd_ne (by omega), putL_at l us (k + 1) i v _ o hd.2 (by simpa using h), show k + 1 + i = k + (i + 1) by omega]
theorem Each.of_at {S : Nat → Oper → Prop} : ∀ {l : List Oper} {k : Nat}, (∀ i o, l[i]? = some o → S (k + i) o) → Each S k l
  | [], _, _ => trivial
  | o :: l, k, h => ⟨by have := h 0 o rfl; rwa [Nat.add_zero] at this, Each.of_at fun i o' ho => by
    have := h (i + 1) o' (by simpa using ho)
    rwa [show k + 1 + i = k + (i + 1) by omega]⟩
/-- **A region that draws its order and only adds memory: each operation walked once.** V: what operation j yields, known at whatever world comes after; F: the frame, by what has been yielded. -/
theorem wp_region_grow {id : Nat} {a : Act} {w : World} {l : List Oper} (F : (Nat → Value) → Act) (hF : ∀ us, putL l us 0 a = F us) (V : Nat → Value → World → Prop)
    (hm : P.follows .mixedOrders = true) (hlow : lowB 0 l = true) (hd : dstB l = true)
    (hV : ∀ j u w1 w2, V j u w1 → Below w1.heap.size w1 w2 → V j u w2)
    (hop : Each (GrowOk P l F V w) 0 l)
    (hend : ∀ us w', (∀ i, i < l.length → V i (us i) w') → Below w.heap.size w w' → Q .normal (F us) w') : (Code.region id l.toArray true).wp P Q a w := by
  obtain rfl : (fun us => putL l us 0 a) = F := funext hF
  refine wp_region_hold (fun us => putL l us 0 a) (fun L us wx => Below w.heap.size w wx ∧ ∀ j, L j → V j (us j) wx) (fun i => match l[i]? with | some o => cur a o | none => undef) hm hlow ?_ ?_ ⟨(Below.refl _ _).drew, fun _ h => h.elim⟩ (hop.imp fun i o h L us wx hnL hdep _ hI K hK => ?_) (fun L us w' hL hI => hend us w' (fun i hi => hI.2 i (hL i hi)) hI.1)
  · exact (putL_cur l _ 0 a fun i o ho => by rw [Nat.zero_add, ho]).symm
  · exact Each.of_at fun i o ho us v => by
      have := putL_at l us 0 i v a o hd ho
      rwa [Nat.zero_add] at this ⊢
  refine h us wx hI.1 (fun j hj => hI.2 j (hdep j hj)) Q K fun a' w' v ha hb hv => hK a' w' v ha ⟨hI.1.trans (hb.mono hI.1.size), fun j hj => ?_⟩
  by_cases e : j = i
  · subst e; rw [upd_same]; exact hv
  · rw [upd_ne e]; exact hV j _ _ _ (hI.2 j (hj.resolve_left e)) hb
end
end Go.Proofs.YtfdfjmibjnmhpaaGreat.B

namespace Go.Proofs.YtfdfjmibjnmhpaaGreat.B
open Go.RowKit
section
variable {P : Program} {Q : Exit → Act → World → Prop}
/-- The last operation: from what all the others have yielded. -/
def LastOk (P : Program) (ops : List Oper) (F : (Nat → Value) → Act) (V : Nat → Value → World → Prop) (R : (Nat → Value) → World → Prop) (w0 : World) (n : Nat) (o : Oper) : Prop :=
  ∀ (us : Nat → Value) (w : World), Below w0.heap.size w0 w → (∀ j, j < n → V j (us j) w) → ∀ (Q : Exit → Act → World → Prop) (K : Act → World → Prop),
    (∀ a' w' v, a' = (F us).put o.dst v → R (upd us n v) w' → K a' w') →
      if Region.wanted o (yielded ops.toArray (F us).tmps) = true then Oper.wp P o (F us) w K Q else K ((F us).put o.dst undef) w
def FinOk (P : Program) (ops : List Oper) (F : (Nat → Value) → Act) (V : Nat → Value → World → Prop) (R : (Nat → Value) → World → Prop) (w0 : World) (n : Nat) (i : Nat) (o : Oper) : Prop :=
  (i ≠ n → GrowOk P ops F V w0 i o) ∧ (i = n → LastOk P ops F V R w0 n o)
theorem wp_region_fin {id : Nat} {a : Act} {w : World} {l : List Oper} (F : (Nat → Value) → Act) (hF : ∀ us, putL l us 0 a = F us) (V : Nat → Value → World → Prop) (R : (Nat → Value) → World → Prop) (n : Nat)
    (hm : P.follows .mixedOrders = true) (hlow : lowB 0 l = true) (hd : dstB l = true) (hn : l.length = n + 1) (hw : (List.range n).all (fun j => waitsB l n n j) = true)
    (hV : ∀ j u w1 w2, V j u w1 → Below w1.heap.size w1 w2 → V j u w2)
    (hop : Each (FinOk P l F V R w n) 0 l)
    (hend : ∀ us w', R us w' → Q .normal (F us) w') : (Code.region id l.toArray true).wp P Q a w := by
  obtain rfl : (fun us => putL l us 0 a) = F := funext hF
  refine wp_region_hold (fun us => putL l us 0 a) (fun L us wx => (L n → R us wx) ∧ (¬ L n → Below w.heap.size w wx ∧ ∀ j, L j → V j (us j) wx)) (fun i => match l[i]? with | some o => cur a o | none => undef) hm hlow ?_ ?_ ⟨fun h => h.elim, fun _ => ⟨(Below.refl _ _).drew, fun _ h => h.elim⟩⟩ (Each.of_at fun i o ho L us wx hnL hdep hsh hI K hK => ?_) (fun L us w' hL hI => hend us w' (hI.1 (hL n (by omega))))
  · exact (putL_cur l _ 0 a fun i o ho => by rw [Nat.zero_add, ho]).symm
  · exact Each.of_at fun i o ho us v => by
      have := putL_at l us 0 i v a o hd ho
      rwa [Nat.zero_add] at this ⊢
  rw [Nat.zero_add] at hnL hK
  have h := Each.at_ hop ho
  rw [Nat.zero_add] at h
  by_cases hi : i = n
  · have hN : ¬ L n := by rw [← hi]; exact hnL
    obtain ⟨hB, hv⟩ := hI.2 hN
    refine h.2 hi us wx hB (fun j hj => hv j ?_) Q K fun a' w' v ha hr => hK a' w' v ha ⟨fun _ => by rw [hi]; exact hr, fun hh => absurd (.inl hi.symm) hh⟩
    have hwj := List.all_eq_true.1 hw j (List.mem_range.2 hj)
    cases n with
    | zero => omega
    | succ m =>
      simp only [waitsB, Bool.or_eq_true, beq_iff_eq] at hwj
      rcases hwj with e | hwj
      · omega
      · rcases e : l[m + 1]? with _ | o'
        · rw [e] at hwj; simp at hwj
        · rw [e] at hwj
          obtain ⟨d, hd2, hB2⟩ := List.any_eq_true.1 hwj
          have e2 : o = o' := by rw [hi, e] at ho; exact (Option.some.inj ho).symm
          exact hsh.far m d j hB2 (hdep d (by rw [e2]; exact hd2))
  · have hN : ¬ (i = n) := hi
    by_cases hLn : L n
    · exfalso
      have hil : i < l.length := (List.getElem?_eq_some_iff.1 ho).1
      exact hnL (hsh.far n n i (List.all_eq_true.1 hw i (List.mem_range.2 (by omega))) hLn)
    · obtain ⟨hB, hv⟩ := hI.2 hLn
      refine h.1 hi us wx hB (fun j hj => hv j (hdep j hj)) Q K fun a' w' v ha hb hvv => hK a' w' v ha ⟨fun hh => absurd (hh.resolve_left (Ne.symm hi)) hLn, fun _ => ⟨hB.trans (hb.mono hB.size), fun j hj => ?_⟩⟩
      by_cases e : j = i
      · subst e; rw [upd_same]; exact hvv
      · rw [upd_ne e]; exact hV j _ _ _ (hv j (hj.resolve_left e)) hb
end
end Go.Proofs.YtfdfjmibjnmhpaaGreat.B

namespace Go.Proofs.YtfdfjmibjnmhpaaGreat.V
open Go.RowKit Go.Proofs.YtfdfjmibjnmhpaaGreat.B
theorem infoVt : (Tryz.prog.info? 61).map (fun i => (i.zero, i.size, i.bytes)) = some (some (.agg #[.int .i64 0, .int .i64 0]), 2, 16) := by kernel_rfl
theorem Blk.own9 {w w' : World} {g : Nat} {t : TypeId} {cs : Array Value} {row : Option Nat} (h : Blk w g t cs) (hgr : w.grownBy w' row) (hne : row ≠ some g) : Blk w' g t cs := (hgr.block g h.lt (fun e => hne e.symm)).trans h
theorem form8 {w : World} {base e size n : Nat} {v : Value} {xs : List Value} (h : w.ownsRow base e size v n xs) : ∃ A c, v = .slice A n c := by
  obtain ⟨_, ⟨rfl, rfl⟩ | ⟨g, cap, cur, rfl, _⟩⟩ := h
  · exact ⟨_, _, rfl⟩
  · exact ⟨_, _, rfl⟩
/-- Votes, in memory of the call's own. -/
def VR (us : List (Int × Int)) (w : World) (e : Ending) (w' : World) : Prop := ∃ A d, e = .returned (.slice A us.length d) ∧ OV w' 61 w.heap.size A us ∧ Below w.heap.size w w'
theorem vr_of {us : List (Int × Int)} {w w' : World} {v : Value} {n : Nat} {xs : List Value} (h : w'.ownsRow w.heap.size 61 2 v n xs) (hn : n = us.length) (hx : xs = vcells us) (hB : Below w.heap.size w w') : VR us w (.returned v) w' := by
  subst hn hx
  obtain ⟨A, d, rfl⟩ := form8 h
  exact ⟨A, d, rfl, OV.of_own h, hB⟩
set_option maxHeartbeats 1600000 in
theorem copiedVotes_any (A : Option Addr) (c : Nat) (vs : List (Int × Int)) (w : World) (hr : Rd w w.heap.size A vs) (hn : vs.length ≤ 1048576) :
    Calls Tryz.prog 88 #[.slice A vs.length c] w (VR vs w) := by
  obtain ⟨i0, hi0, hz0, hz1, hz2⟩ := info_parts infoVt
  have HR := Lib.hid hr.reads; have H1 := Lib.hid (vcells_one vs)
  obtain ⟨n, en⟩ : ∃ n, vs.length = n := ⟨_, rfl⟩
  rw [en] at hn HR ⊢
  have EN := Lib.hid en; clear en hr
  go_enter Tryz.func88, Tryz.ntmps88
  go_wp2_with (at_builtin; refine wpList_append_any _ rfl (.const (.slice none 0 0)) (.tmp 3) 62 rfl w.heap.size 61 i0 _ 2 16 Tryz.underlying62 hi0 hz0 hz1 hz2 rfl (by omega) (.slice none 0 0) 0 [] rfl (World.ownsRow_nil _ _ _ _) w.heap.size A n c (vcells vs) rfl HR.out H1.out (by simp only [maxLen]; omega) (by omega) (by omega) ?_; intro v1 w1 hown1 hgr1 hat1)
  go_ret
  exact vr_of hown1 (by rw [EN.out]; omega) rfl ((Below.refl _ _).grown hgr1 (Nat.le_refl _) (fun j hj => by first | (injection hj) | simp at hj))
def MR (k v x a b : Int) (us : List (Int × Int)) (w : World) (e : Ending) (w' : World) : Prop := ∃ A d, e = .returned (.agg #[.int .i64 k, .int .i64 v, .int .i64 x, .int .i64 a, .int .i64 b, .slice A us.length d]) ∧ OV w' 61 w.heap.size A us ∧ Below w.heap.size w w'
def TV (base p : Nat) (vw lv lx : Int) (A : Option Addr) (n c : Nat) (us : List (Int × Int)) : Nat → Value → World → Prop
  | 0, u, _ => u = .int .i64 vw
  | 1, u, _ => u = .pointer (some ⟨p, 6, none⟩)
  | 2, u, _ => u = .agg #[.int .i64 lv, .int .i64 lx]
  | 3, u, _ => u = .pointer (some ⟨p, 5, none⟩)
  | 4, u, _ => u = .slice A n c
  | 5, u, w => ∃ B d, u = .slice B n d ∧ OV w 61 base B us
  | 6, u, w => ∃ B d, u = .agg #[.int .i64 3, .int .i64 vw, .int .i64 0, .int .i64 lv, .int .i64 lx, .slice B n d] ∧ OV w 61 base B us
  | _, _, _ => True
theorem TV.keep {base p : Nat} {vw lv lx : Int} {A : Option Addr} {n c : Nat} {us : List (Int × Int)} : ∀ j u w1 w2, TV base p vw lv lx A n c us j u w1 → Below w1.heap.size w1 w2 → TV base p vw lv lx A n c us j u w2 := by
  intro j u w1 w2 h hb
  match j, h with
  | 0, h => exact h
  | 1, h => exact h
  | 2, h => exact h
  | 3, h => exact h
  | 4, h => exact h
  | 5, h => obtain ⟨B, d, e, ho⟩ := h; exact ⟨B, d, e, ho.on hb⟩
  | 6, h => obtain ⟨B, d, e, ho⟩ := h; exact ⟨B, d, e, ho.on hb⟩
  | _ + 7, _ => trivial
def TR (base o : Nat) (w0 : World) (vw lv lx : Int) (n : Nat) (us : List (Int × Int)) (_ : Nat → Value) (w' : World) : Prop :=
  ∃ B d, Blk w' o 64 #[.int .i64 3, .int .i64 vw, .int .i64 0, .int .i64 lv, .int .i64 lx, .slice B n d] ∧ OV w' 61 base B us ∧ Below base w0 w'
theorem OV.set6 {wx : World} {base o t : Nat} {B : Option Addr} {us : List (Int × Int)} {cs : Array Value} {v0 v1 v2 v3 v4 v5 : Value} (h : OV wx 61 base B us) (hk : Blk wx o t cs) (ht : t ≠ 61) :
    OV ((((((wx.setCell ⟨o, 0, none⟩ v0).setCell ⟨o, 1, none⟩ v1).setCell ⟨o, 2, none⟩ v2).setCell ⟨o, 3, none⟩ v3).setCell ⟨o, 4, none⟩ v4).setCell ⟨o, 5, none⟩ v5) 61 base B us := by
  rcases h with h | ⟨g, cur, rfl, hg, hb, hp⟩
  · exact .inl h
  · have hne : g ≠ o := fun e => by
      subst e
      have h1 := hb.symm.trans hk
      injection h1 with h1
      injection h1 with _ h1
      exact ht h1.symm
    exact .inr ⟨g, cur, rfl, hg, (((((hb.far hne _).far hne _).far hne _).far hne _).far hne _).far hne _, hp⟩
theorem OV.set_ {w : World} {t base : Nat} {A : Option Addr} {us : List (Int × Int)} {p : Addr} (h : OV w t base A us) (hp : p.block < base) (v : Value) : OV (w.setCell p v) t base A us := by
  rcases h with h | ⟨g, cur, rfl, hg, hb, hq⟩
  · exact .inl h
  · exact .inr ⟨g, cur, rfl, hg, hb.far (by omega) _, hq⟩
theorem votes_below {vs : List (Int × Int)} {b : Int} (h : votesOkB vs b = true) : ∀ j, j < vs.length → (vs.getD j (0, 0)).1 < b := fun j hj => by
  unfold votesOkB at h
  rw [List.all_eq_true] at h
  have h2 := h j (List.mem_range.2 hj)
  unfold goodAt at h2
  simp only [Bool.and_eq_true, decide_eq_true_eq] at h2
  exact h2.1.2
def rofQ (d : Rd4) (vw : Int) : Bool := (repQ d && decide (d.view < vw)) && decide (vw ≤ 9)
def TRes (q : Bool) (vw lv lx : Int) (us : List (Int × Int)) (w : World) (e : Ending) (w' : World) : Prop := ∃ A d, e = .returned (.tuple #[.agg #[.int .i64 (if q then 3 else 0), .int .i64 (if q then vw else 0), .int .i64 0, .int .i64 (if q then lv else 0), .int .i64 (if q then lx else 0), .slice A (if q then us else []).length d], .bool q]) ∧ OV w' 61 w.heap.size A (if q then us else []) ∧ Below w.heap.size w w'
theorem rof_all {q : Rq} {vw : Int} (h : rofQ q.dat vw = true) : ∀ j, j < q.voted.length → (q.voted.getD j (0, 0)).1 < vw := fun j hj => by
  unfold rofQ at h
  simp only [Bool.and_eq_true, decide_eq_true_eq] at h
  have h1 := h.1.1
  have h2 : q.view < vw := h.1.2
  unfold repQ at h1
  simp only [Bool.and_eq_true] at h1
  have h3 : votesOkB q.voted (q.view + 1) = true := h1.2.1
  have := votes_below h3 j hj
  omega
set_option maxHeartbeats 1600000 in
theorem l1ownMsg_any (k v x a b : Int) (A : Option Addr) (c : Nat) (us : List (Int × Int)) (w : World) (hr : Rd w w.heap.size A us) (hn : us.length ≤ 1048576) :
    Calls Tryz.prog 40 #[.agg #[.int .i64 k, .int .i64 v, .int .i64 x, .int .i64 a, .int .i64 b, .slice A us.length c]] w (MR k v x a b us w) := by
  obtain ⟨i0, hi0, hz0, hz1, hz2⟩ := info_parts infoVt
  have H1 := Lib.hid (vcells_one us)
  obtain ⟨n, en⟩ : ∃ n, us.length = n := ⟨_, rfl⟩
  have hR := (((hr.up (.cells #[.int .i64 k, .int .i64 v, .int .i64 x, .int .i64 a, .int .i64 b, .slice A us.length c] 64)).up (.cells #[.int .i64 0, .int .i64 0, .int .i64 0, .int .i64 0, .int .i64 0, .slice none 0 0] 64)).up (.cells #[] 61)).reads
  rw [en] at hn hR ⊢
  have HR := Lib.hid hR
  have EN := Lib.hid en; clear en hr hR
  have ka := (Blk.new w 64 #[.int .i64 k, .int .i64 v, .int .i64 x, .int .i64 a, .int .i64 b, .slice A n c]).alloc (.cells #[.int .i64 0, .int .i64 0, .int .i64 0, .int .i64 0, .int .i64 0, .slice none 0 0] 64)
  have hO1 := World.ownsRow_lit (e := 61) (base := w.heap.size + 2) (size := 2) ((w.alloc (.cells #[.int .i64 k, .int .i64 v, .int .i64 x, .int .i64 a, .int .i64 b, .slice A n c] 64)).alloc (.cells #[.int .i64 0, .int .i64 0, .int .i64 0, .int .i64 0, .int .i64 0, .slice none 0 0] 64)) #[] 0 (by simp) (by simp [maxLen]) rfl
  have HO1 := Lib.hid hO1; clear hO1
  have hB0 := up_ (up_ (Below.refl w.heap.size w) (.cells #[.int .i64 k, .int .i64 v, .int .i64 x, .int .i64 a, .int .i64 b, .slice A n c] 64)) (.cells #[.int .i64 0, .int .i64 0, .int .i64 0, .int .i64 0, .int .i64 0, .slice none 0 0] 64)
  have ka1 := ka.alloc (.cells #[] 61)
  have km := Blk.new (w.alloc (.cells #[.int .i64 k, .int .i64 v, .int .i64 x, .int .i64 a, .int .i64 b, .slice A n c] 64)) 64 #[.int .i64 0, .int .i64 0, .int .i64 0, .int .i64 0, .int .i64 0, .slice none 0 0]
  simp only [World.size_alloc] at km
  have km1 := km.alloc (.cells #[] 61)
  have hB1 := up_ hB0 (.cells #[] 61)
  have HB1 := Lib.hid hB1; have HK1 := Lib.hid ka1; have HM1 := Lib.hid km1
  have HPOST := Lib.hid (fun (v1 : Value) (w1 : World) (hown1 : w1.ownsRow (w.heap.size + 2) 61 2 v1 (0 + n) ([] ++ vcells us)) (hgr1 : (((w.alloc (.cells #[.int .i64 k, .int .i64 v, .int .i64 x, .int .i64 a, .int .i64 b, .slice A n c] 64)).alloc (.cells #[.int .i64 0, .int .i64 0, .int .i64 0, .int .i64 0, .int .i64 0, .slice none 0 0] 64)).alloc (.cells #[] 61)).grownBy w1 (some (w.heap.size + 2))) =>
    (show ∃ B d, v1 = .slice B n d ∧ Hid (OV w1 61 (w.heap.size + 2) B us) ∧ Hid (Below w.heap.size w w1) ∧ Blk w1 w.heap.size 64 #[.int .i64 k, .int .i64 v, .int .i64 x, .int .i64 a, .int .i64 b, .slice A n c] ∧ Blk w1 (w.heap.size + 1) 64 #[.int .i64 0, .int .i64 0, .int .i64 0, .int .i64 0, .int .i64 0, .slice none 0 0] from by
      have hown2 : w1.ownsRow (w.heap.size + 2) 61 2 v1 us.length (vcells us) := by
        have h := hown1
        rw [List.nil_append, Nat.zero_add] at h
        rw [EN.out]
        exact h
      obtain ⟨B, d, rfl⟩ := form8 hown2
      exact ⟨B, d, by rw [EN.out], OV.of_own hown2, HB1.out.grown hgr1 (by simp; omega) (fun j hj => by injection hj with hj; omega), Blk.own9 HK1.out hgr1 (by intro e; injection e with e; omega), Blk.own9 HM1.out hgr1 (by intro e; injection e with e; omega)⟩))
  clear hB0 hB1 ka1 km1 km HB1 HK1 HM1
  have ra := ka.rule
  go_enter Tryz.func40, Tryz.ntmps40
  go_wp2_with (at_builtin; refine wpList_append_any _ rfl (.tmp 3) (.tmp 5) 62 rfl (w.heap.size + 2) 61 i0 _ 2 16 Tryz.underlying62 hi0 hz0 hz1 hz2 rfl (by omega) (.slice (some ⟨w.heap.size + 2, 0, none⟩) 0 0) 0 [] rfl (by simpa using HO1.out) _ A n c (vcells us) rfl HR.out H1.out (by simp only [maxLen]; omega) (by omega) (by simp) ?_; intro v1 w1 hown1 hgr1 hat1; obtain ⟨B, d, rfl, hov, HB2, ka2, km2⟩ := HPOST.out v1 w1 hown1 hgr1; have ra2 := ka2.rule; have fa2 := fun i => ka2.frozen i; have rm2 := km2.rule; have fm2 := fun i => km2.frozen i)
  go_wp2
  have km3 : Blk _ _ 64 #[.int .i64 k, .int .i64 v, .int .i64 x, .int .i64 a, .int .i64 b, .slice B n d] := (((((((km2.far (show w.heap.size + 1 ≠ w.heap.size by omega) _ : Blk (w1.setCell ⟨w.heap.size, 5, none⟩ (.slice B n d)) _ _ _)).set_ 0 (.int .i64 k)).set_ 1 (.int .i64 v)).set_ 2 (.int .i64 x)).set_ 3 (.int .i64 a)).set_ 4 (.int .i64 b)).set_ 5 (.slice B n d)
  have rm3 := km3.rule
  have hl : w.heap.size ≤ w.heap.size + 1 := by omega
  have hv3 := OV.more (OV.set_ (p := ⟨w.heap.size + 1, 5, none⟩) (OV.set_ (p := ⟨w.heap.size + 1, 4, none⟩) (OV.set_ (p := ⟨w.heap.size + 1, 3, none⟩) (OV.set_ (p := ⟨w.heap.size + 1, 2, none⟩) (OV.set_ (p := ⟨w.heap.size + 1, 1, none⟩) (OV.set_ (p := ⟨w.heap.size + 1, 0, none⟩) (OV.set_ (p := ⟨w.heap.size, 5, none⟩) hov.out (show w.heap.size < w.heap.size + 2 by omega) (.slice B n d)) (show w.heap.size + 1 < w.heap.size + 2 by omega) (.int .i64 k)) (show w.heap.size + 1 < w.heap.size + 2 by omega) (.int .i64 v)) (show w.heap.size + 1 < w.heap.size + 2 by omega) (.int .i64 x)) (show w.heap.size + 1 < w.heap.size + 2 by omega) (.int .i64 a)) (show w.heap.size + 1 < w.heap.size + 2 by omega) (.int .i64 b)) (show w.heap.size + 1 < w.heap.size + 2 by omega) (.slice B n d)) (show w.heap.size ≤ w.heap.size + 2 by omega)
  refine bodyPost_ret (v := .agg #[.int .i64 k, .int .i64 v, .int .i64 x, .int .i64 a, .int .i64 b, .slice B n d]) (by simp [results, Tryz.results40, go_sem, rm3]) rfl ⟨B, d, by rw [EN.out], hv3, Below.setCell (Below.setCell (Below.setCell (Below.setCell (Below.setCell (Below.setCell (Below.setCell HB2.out (Nat.le_refl _) _) hl _) hl _) hl _) hl _) hl _) hl _⟩
theorem reads2 (u : World) (xa xb : Int) : Reads (u.alloc (.cells #[.int .i64 xa, .int .i64 xb] 61)) (u.heap.size + 1) 2 (some ⟨u.heap.size, 0, none⟩) 1 [.int .i64 xa, .int .i64 xb] := ⟨rfl, fun _ => ⟨_, rfl, by simp, World.news_of_block (cs := #[.int .i64 xa, .int .i64 xb]) (heap_alloc_new u _)⟩⟩
theorem vtake (vs : List (Int × Int)) (k : Nat) (h : k < vs.length) : vcells (vs.take (k + 1)) = vcells (vs.take k) ++ [.int .i64 (vs.getD k (0, 0)).1, .int .i64 (vs.getD k (0, 0)).2] := by
  rw [take_getD vs (0, 0) k h, vcells_append]
  rfl
end Go.Proofs.YtfdfjmibjnmhpaaGreat.V

namespace Go.Proofs.YtfdfjmibjnmhpaaGreat.V
open Go.RowKit Go.Proofs.YtfdfjmibjnmhpaaGreat.B
end Go.Proofs.YtfdfjmibjnmhpaaGreat.V
namespace Go.Proofs.YtfdfjmibjnmhpaaGreat.B
open Go.RowKit
/-- A slice value at address A reads, below block Bd, as the bytes xs. -/
def RdI (w : World) (Bd : Nat) (A : Option Addr) (xs : List Int) : Prop :=
  0 < xs.length → ∃ b off, A = some ⟨b, off, none⟩ ∧ b < Bd ∧ ∀ i, i < xs.length → w.cell? ⟨b, off + i, none⟩ = some (.int .i64 (xs.getD i 0))
section
variable {w w' : World} {Bd Bd' : Nat} {A : Option Addr} {xs : List Int}
theorem RdI.keep (h : RdI w Bd A xs) (hk : ∀ b o, b < Bd → w'.cell? ⟨b, o, none⟩ = w.cell? ⟨b, o, none⟩) : RdI w' Bd A xs := fun hn => by
  obtain ⟨b, off, e, hb, hc⟩ := h hn
  exact ⟨b, off, e, hb, fun i hi => (hk _ _ hb).trans (hc i hi)⟩
theorem RdI.more (h : RdI w Bd A xs) (hB : Bd ≤ Bd') : RdI w Bd' A xs := fun hn => by
  obtain ⟨b, off, e, hb, hc⟩ := h hn
  exact ⟨b, off, e, by omega, hc⟩
theorem RdI.below (h : RdI w Bd A xs) (hb : Below Bd w w') : RdI w' Bd A xs := h.keep fun _ _ hp => hb.cell hp
theorem RdI.alloc (h : RdI w Bd A xs) (hB : Bd ≤ w.heap.size) (o : Obj) : RdI (w.alloc o) Bd A xs := h.keep fun b o' hp => World.cell?_alloc_lt w o ⟨b, o', none⟩ (by simpa using (show b < w.heap.size by omega))
theorem RdI.on (h : RdI w w.heap.size A xs) (hb : Below w.heap.size w w') : RdI w' w'.heap.size A xs := (h.below hb).more hb.size
theorem RdI.up (h : RdI w w.heap.size A xs) (O : Obj) : RdI (w.alloc O) (w.alloc O).heap.size A xs := (h.alloc (Nat.le_refl _) O).more (by simp)
theorem RdI.nil_ : RdI w Bd A [] := fun h => absurd h (by simp)
theorem RdI.at_ (h : RdI w Bd A xs) {k : Nat} (hk : k < xs.length) : ∃ b off, A = some ⟨b, off, none⟩ ∧ b < Bd ∧ w.cell? ⟨b, off + k, none⟩ = some (.int .i64 (xs.getD k 0)) := by
  obtain ⟨b, off, rfl, hb, hc⟩ := h (by omega)
  exact ⟨b, off, rfl, hb, hc k hk⟩
end

/-- The first k bytes of xs stand in the cells cs. -/
def PI (cs : Array Value) (xs : List Int) (k : Nat) : Prop := xs.length ≤ cs.size ∧ ∀ i, i < k → cs[i]? = some (.int .i64 (xs.getD i 0))
theorem PI.zero {cs : Array Value} {xs : List Int} (h : xs.length ≤ cs.size) : PI cs xs 0 := ⟨h, fun i hi => absurd hi (by omega)⟩
theorem PI.step {cs : Array Value} {xs : List Int} {k : Nat} (h : PI cs xs k) (hk : k < xs.length) : PI (cs.setIfInBounds k (.int .i64 (xs.getD k 0))) xs (k + 1) := by
  refine ⟨by simpa using h.1, fun i hi => ?_⟩
  have hs := h.1
  by_cases e : i = k
  · subst e
    rw [Array.getElem?_setIfInBounds_self_of_lt (by omega)]
  · rw [Array.getElem?_setIfInBounds_ne (by omega)]
    exact h.2 i (by omega)
theorem PI.rd {w : World} {g t Bd : Nat} {cs : Array Value} {xs : List Int} (h : PI cs xs xs.length) (hb : Blk w g t cs) (hg : g < Bd) : RdI w Bd (some ⟨g, 0, none⟩) xs :=
  fun _ => ⟨g, 0, rfl, hg, fun i hi => by rw [Nat.zero_add, hb.cell]; exact h.2 i hi⟩

/-- A slice of bytes of the call's own: nil, or a row of its own whose first cells are xs. -/
def OI (w : World) (t base : Nat) (A : Option Addr) (xs : List Int) : Prop := (A = none ∧ xs = []) ∨ ∃ g cur, A = some ⟨g, 0, none⟩ ∧ base ≤ g ∧ Blk w g t cur ∧ PI cur xs xs.length
theorem OI.nil_ {w : World} {t base : Nat} : OI w t base none [] := .inl ⟨rfl, rfl⟩
theorem OI.of_own {w : World} {base t n c : Nat} {A : Option Addr} {xs : List Int} (h : w.ownsRow base t 1 (.slice A n c) n (xs.map (Value.int .i64))) : n = xs.length ∧ OI w t base A xs := by
  obtain ⟨hl, h⟩ := h
  have hn : n = xs.length := by simpa using hl.symm
  refine ⟨hn, ?_⟩
  rcases h with ⟨h1, h2⟩ | ⟨g, cap, cur, h1, h2, h3, h4, h5, h6, h7⟩
  · injection h1 with h1
    exact .inl ⟨h1, List.eq_nil_of_length_eq_zero (by omega)⟩
  · injection h1 with h1
    refine .inr ⟨g, cur, h1, h2, h3, by omega, fun i hi => ?_⟩
    have hi' : i < n := by omega
    have : (cur.toList.take (n * 1))[i]? = some (.int .i64 (xs.getD i 0)) := by
      rw [h7]
      simp [List.getD, List.getElem?_eq_getElem hi]
    rw [List.getElem?_take_of_lt (by omega)] at this
    simpa using this
theorem OI.rd {w : World} {t base : Nat} {A : Option Addr} {xs : List Int} (h : OI w t base A xs) : RdI w w.heap.size A xs := by
  rcases h with ⟨rfl, rfl⟩ | ⟨g, cur, rfl, _, hb, hp⟩
  · exact RdI.nil_
  · exact hp.rd hb hb.lt
theorem OI.on {w w' : World} {t base : Nat} {A : Option Addr} {xs : List Int} (h : OI w t base A xs) (hb : Below w.heap.size w w') : OI w' t base A xs := by
  rcases h with ⟨rfl, rfl⟩ | ⟨g, cur, rfl, hg, hk, hp⟩
  · exact OI.nil_
  · exact .inr ⟨g, cur, rfl, hg, hk.on hb, hp⟩
end Go.Proofs.YtfdfjmibjnmhpaaGreat.B

namespace Go.Proofs.YtfdfjmibjnmhpaaGreat.V
open Go.RowKit Go.Proofs.YtfdfjmibjnmhpaaGreat.B

set_option maxHeartbeats 400000 in
theorem eqIntS_same (A C : Option Addr) (c d : Nat) (xs : List Int) (w : World) (hr : RdI w w.heap.size A xs) (hs : RdI w w.heap.size C xs) (hn : xs.length ≤ 16777216) :
    Calls Tryz.prog 11 #[.slice A xs.length c, .slice C xs.length d] w fun e w' => e = .returned (.bool true) ∧ Below w.heap.size w w' := by
  obtain ⟨n, hvn⟩ : ∃ n, xs.length = n := ⟨_, rfl⟩
  rw [hvn] at hn ⊢
  have HV := Lib.hid hvn; clear hvn
  go_enter Tryz.func11, Tryz.ntmps11
  go_wp2
  go_loopw [5] (fun i wr => ∃ (k : Nat), k ≤ n ∧ i = .int .i64 k ∧ Below w.heap.size w wr) (fun i _ => n - (intOf i).toNat)
  case atStart => exact ⟨0, Nat.zero_le _, rfl, Below.refl _ _⟩
  case round =>
    obtain ⟨k, hk, rfl, hbel⟩ := hrel
    by_cases hlt : k < n
    · obtain ⟨b, off, rfl, hb, hc0⟩ := (hr.below hbel).at_ (k := k) (by rw [HV.out]; omega)
      obtain ⟨b', off', rfl, hb', hc1⟩ := (hs.below hbel).at_ (k := k) (by rw [HV.out]; omega)
      clear hr hs
      generalize xs.getD k 0 = y at *
      have C0 := fun x : Lat wr => x.cell hc0
      have C1 := fun x : Lat wr => x.cell hc1
      have hne : (y != y) = false := by simp
      go_wp2
      refine wp_region_lat (by kernel_rfl) (by kernel_rfl) ?_
      repeat (go_big_quiet_step (fail))
      refine wpQuiet_nil ?_
      rintro _ ⟨⟨w3, hb3⟩, rfl⟩
      clear C0 C1
      go_wp2
      go_roundw
      case rel => exact ⟨k + 1, by omega, by go_num, hbel.trans (hb3.mono hbel.size)⟩
      case measure => simp [intOf]; omega
    · go_wp2
      go_ret
      exact ⟨rfl, hbel⟩

/-- The cells cs bear the marks k, k+1, .. as bytes in the n first places. -/
def MKI (cs : Array Value) (k : Int) (n : Nat) : Prop := ∀ i, i < n → cs[i]? = some (.int .i64 (k + i))

theorem MKI.step {cs : Array Value} {k : Int} {j : Nat} (h : MKI cs k j) (hs : j < cs.size) : MKI (cs.setIfInBounds j (.int .i64 (k + j))) k (j + 1) := by
  intro i hi
  by_cases e : i = j
  · subst e
    rw [Array.getElem?_setIfInBounds_self_of_lt hs]
  · rw [Array.getElem?_setIfInBounds_ne (by omega)]
    exact h i (by omega)
theorem only_setI {a w : World} {g : Nat} (h : a.grownBy w (some g)) (i : Nat) (u : Value) : a.grownBy (w.setCell ⟨g, i, none⟩ u) (some g) :=
  ⟨h.os, h.tape, h.output, by simpa [World.setCell] using h.size, fun j hj hne => (Below.heap_setCell w ⟨g, i, none⟩ u j (by
    rintro rfl
    exact hne rfl)).trans (h.block j hj hne)⟩

set_option maxHeartbeats 400000 in
theorem markI_any (g n c : Nat) (t : TypeId) (cs : Array Value) (k : Int) (w : World) (hb : Blk w g t cs) (hs : n ≤ cs.size) (hn : n ≤ 16777216) (h0 : 0 ≤ k) (h1 : k ≤ 16777216) :
    Calls Tryz.prog 14 #[.slice (some ⟨g, 0, none⟩) n c, .int .i64 k] w fun e w' =>
      e = .returned (.int .i64 (k + n)) ∧ ∃ cs', Blk w' g t cs' ∧ cs'.size = cs.size ∧ MKI cs' k n ∧ w.grownBy w' (some g) := by
  have HS := Lib.hid hs; clear hs
  go_enter Tryz.func14, Tryz.ntmps14
  go_wp2
  go_loopw [1, 5] (fun kk i wr => ∃ (j : Nat) (ds : Array Value), j ≤ n ∧ i = .int .i64 j ∧ kk = .int .i64 (k + j) ∧ Blk wr g t ds ∧ Hid (ds.size = cs.size) ∧ Hid (MKI ds k j) ∧ w.grownBy wr (some g)) (fun _ i _ => n - (intOf i).toNat)
  case atStart => exact ⟨0, cs, Nat.zero_le _, rfl, by simp, hb, rfl, fun i hi => absurd hi (by omega), World.grownBy.refl w _⟩
  case round =>
    obtain ⟨j, ds, hj, rfl, rfl, hblk, hsz, hmk, hgr⟩ := hrel
    by_cases hlt : j < n
    · have hx0 : ∃ y, ds[j]? = some y := ⟨_, Array.getElem?_eq_getElem (by have := hsz.out; have := HS.out; omega)⟩
      obtain ⟨y0, hx0⟩ := hx0
      have hc0 := (hblk.cell j).trans hx0
      have hf0 := hblk.frozen j
      have HM : Hid (MKI (ds.setIfInBounds j (.int .i64 (k + j))) k (j + 1)) := MKI.step hmk.out (by have := hsz.out; have := HS.out; omega)
      have HZ : Hid ((ds.setIfInBounds j (.int .i64 (k + j))).size = cs.size) := by rw [Array.size_setIfInBounds]; exact hsz.out
      clear hx0 hmk hsz
      go_wp2
      go_roundw
      case rel => exact ⟨j + 1, _, by omega, by go_num, by congr 1; simp; omega, hblk.set_ _ _, HZ, HM, only_setI hgr _ _⟩
      case measure => simp [intOf]; omega
    · have hjn : j = n := by omega
      subst hjn
      go_wp2
      go_ret
      exact ⟨rfl, ds, hblk, hsz.out, hmk.out, hgr⟩

set_option maxHeartbeats 400000 in
theorem heldI_any (g n c : Nat) (t : TypeId) (cs : Array Value) (k : Int) (w : World) (hb : Blk w g t cs) (hm : MKI cs k n) (hn : n ≤ 16777216) (h0 : 0 ≤ k) (h1 : k ≤ 16777216) :
    Calls Tryz.prog 15 #[.slice (some ⟨g, 0, none⟩) n c, .int .i64 k] w fun e w' => e = .returned (.int .i64 (k + n)) ∧ w = w' := by
  have HM := Lib.hid hm; clear hm
  go_enter Tryz.func15, Tryz.ntmps15
  go_wp2
  go_loop [1, 5] (fun kk i => ∃ (j : Nat), j ≤ n ∧ i = .int .i64 j ∧ kk = .int .i64 (k + j)) (fun _ i => n - (intOf i).toNat)
  case atStart => exact ⟨0, Nat.zero_le _, rfl, by simp⟩
  case round =>
    obtain ⟨j, hj, rfl, rfl⟩ := hrel
    by_cases hlt : j < n
    · have hc0 := (hb.cell j).trans (HM.out j hlt)
      have hne : ∀ i : Int, (i != i) = false := fun i => by simp
      go_wp2
      go_round
      case rel => exact ⟨j + 1, by omega, by go_num, by congr 1; simp; omega⟩
      case measure => simp [intOf]; omega
    · have hjn : j = n := by omega
      subst hjn
      go_wp2
      go_ret
      exact ⟨rfl, rfl⟩

theorem markI_nil (A : Option Addr) (c : Nat) (k : Int) (w : World) :
    Calls Tryz.prog 14 #[.slice A 0 c, .int .i64 k] w fun e w' => e = .returned (.int .i64 k) ∧ w = w' := by
  go_enter Tryz.func14, Tryz.ntmps14
  go_wp2
  refine wp_loop_rounds 1 ?_
  rw [rounds_succ]
  go_wp2
  go_ret
  exact ⟨rfl, rfl⟩
theorem heldI_nil (A : Option Addr) (c : Nat) (k : Int) (w : World) :
    Calls Tryz.prog 15 #[.slice A 0 c, .int .i64 k] w fun e w' => e = .returned (.int .i64 k) ∧ w = w' := by
  go_enter Tryz.func15, Tryz.ntmps15
  go_wp2
  refine wp_loop_rounds 1 ?_
  rw [rounds_succ]
  go_wp2
  go_ret
  exact ⟨rfl, rfl⟩

/-- Whatever row of the call's own it is: the marks are laid, and found again as long as the row is as it was. -/
def MI (w : World) (t base : Nat) (A : Option Addr) (n : Nat) (k : Int) : Prop := n = 0 ∨ ∃ g cur, A = some ⟨g, 0, none⟩ ∧ base ≤ g ∧ Blk w g t cur ∧ MKI cur k n
theorem MI.on {w w' : World} {t base n : Nat} {A : Option Addr} {k : Int} (h : MI w t base A n k) (hb : Below w.heap.size w w') : MI w' t base A n k := by
  rcases h with h | ⟨g, cur, rfl, hg, hk, hp⟩
  · exact .inl h
  · exact .inr ⟨g, cur, rfl, hg, hk.on hb, hp⟩
theorem markI_own (A : Option Addr) (c t base : Nat) (xs : List Int) (k : Int) (w : World) (h : OI w t base A xs) (hn : xs.length ≤ 16777216) (h0 : 0 ≤ k) (h1 : k ≤ 16777216) :
    Calls Tryz.prog 14 #[.slice A xs.length c, .int .i64 k] w fun e w' =>
      e = .returned (.int .i64 (k + xs.length)) ∧ MI w' t base A xs.length k ∧ Below base w w' := by
  rcases h with ⟨rfl, rfl⟩ | ⟨g, cur, rfl, hg, hb, hp⟩
  · refine (markI_nil none c k w).mono ?_
    rintro e w' ⟨rfl, rfl⟩
    exact ⟨by simp, .inl rfl, Below.refl _ _⟩
  · refine (markI_any g xs.length c t cur k w hb hp.1 hn h0 h1).mono ?_
    rintro e w' ⟨rfl, ds, hd, _, hm, hgr⟩
    refine ⟨rfl, .inr ⟨g, ds, rfl, hg, hd, hm⟩, hgr.os, hgr.tape, hgr.output, hgr.size, fun i hi => hgr.block i (by have := hb.lt; omega) (by simp; omega)⟩
theorem heldI_own (A : Option Addr) (c t base n : Nat) (k : Int) (w : World) (h : MI w t base A n k) (hn : n ≤ 16777216) (h0 : 0 ≤ k) (h1 : k ≤ 16777216) :
    Calls Tryz.prog 15 #[.slice A n c, .int .i64 k] w fun e w' => e = .returned (.int .i64 (k + n)) ∧ w = w' := by
  rcases h with rfl | ⟨g, cur, rfl, _, hb, hm⟩
  · refine (heldI_nil A c k w).mono ?_
    rintro e w' ⟨rfl, rfl⟩
    exact ⟨by simp, rfl⟩
  · exact heldI_any g n c t cur k w hb hm hn h0 h1
end Go.Proofs.YtfdfjmibjnmhpaaGreat.V

namespace Go.Proofs.YtfdfjmibjnmhpaaGreat.B
open Go.RowKit
theorem OI.up {w : World} {t base : Nat} {A : Option Addr} {xs : List Int} (h : OI w t base A xs) (O : Obj) : OI (w.alloc O) t base A xs := h.on ((Below.refl _ _).alloc (Nat.le_refl _) O)
theorem OI.lt {w : World} {t base : Nat} {A : Option Addr} {xs : List Int} (h : OI w t base A xs) : ∀ g, A = some ⟨g, 0, none⟩ → g < w.heap.size := by
  intro g' e
  rcases h with ⟨rfl, rfl⟩ | ⟨g, cur, rfl, _, hk, _⟩
  · cases e
  · injection e with e
    injection e with e
    subst e
    exact hk.lt
theorem OI.ge {w : World} {t base : Nat} {A : Option Addr} {xs : List Int} (h : OI w t base A xs) : ∀ g, A = some ⟨g, 0, none⟩ → base ≤ g := by
  intro g' e
  rcases h with ⟨rfl, rfl⟩ | ⟨g, cur, rfl, hg, _, _⟩
  · cases e
  · injection e with e
    injection e with e
    subst e
    exact hg
theorem OI.keep {w w' : World} {t base : Nat} {A : Option Addr} {xs : List Int} {row : Option Nat} (h : OI w t base A xs) (hgr : w.grownBy w' row) (hne : ∀ g', A = some ⟨g', 0, none⟩ → row ≠ some g') : OI w' t base A xs := by
  rcases h with ⟨rfl, rfl⟩ | ⟨g', cur, rfl, hb, hk, hp⟩
  · exact OI.nil_
  · exact .inr ⟨g', cur, rfl, hb, (hgr.block g' hk.lt (fun e => hne g' rfl e.symm)).trans hk, hp⟩
theorem OI.low {w w' : World} {t base Bd : Nat} {A : Option Addr} {xs : List Int} (h : OI w t base A xs) (hb : Below Bd w w') (hl : ∀ g', A = some ⟨g', 0, none⟩ → g' < Bd) : OI w' t base A xs := by
  rcases h with ⟨rfl, rfl⟩ | ⟨g, cur, rfl, hg, hk, hp⟩
  · exact OI.nil_
  · exact .inr ⟨g, cur, rfl, hg, hk.below hb (hl g rfl), hp⟩
theorem keepK {w w' : World} {g : Nat} {t : TypeId} {cs : Array Value} {row : Option Nat} (h : Blk w g t cs) (hgr : w.grownBy w' row) (hne : row ≠ some g) : Blk w' g t cs := (hgr.block g h.lt (fun e => hne e.symm)).trans h
theorem keepL {w w' : World} {base : Nat} {row : Option Nat} (hgr : w.grownBy w' row) (hg : ∀ g, row = some g → base ≤ g) (hw : base ≤ w.heap.size) : Below base w w' :=
  ⟨hgr.os, hgr.tape, hgr.output, hgr.size, fun i hi => hgr.block i (by omega) (fun e => by have := hg i e.symm; omega)⟩
end Go.Proofs.YtfdfjmibjnmhpaaGreat.B
namespace Go.Proofs.YtfdfjmibjnmhpaaGreat.V
open Go.RowKit Go.Proofs.YtfdfjmibjnmhpaaGreat.B
/-- Numbers of the call's own, as the laws read them. -/
def NRes2 (xs : List Int) (w : World) (e : Ending) (w' : World) : Prop :=
  ∃ A d, e = .returned (.slice A xs.length d) ∧ OI w' 3 w.heap.size A xs ∧ Below w.heap.size w w'
theorem nres_of {xs : List Int} {w : World} {e : Ending} {w' : World} (h : NRes xs w e w') : NRes2 xs w e w' := by
  obtain ⟨v, rfl, ho, hb⟩ := h
  obtain ⟨A, c, rfl⟩ : ∃ A c, v = .slice A xs.length c := by
    obtain ⟨_, ⟨rfl, h0⟩ | ⟨g, cap, cur, rfl, _⟩⟩ := ho
    · exact ⟨none, 0, by rw [h0]⟩
    · exact ⟨_, _, rfl⟩
  exact ⟨A, c, rfl, (OI.of_own ho).2, hb⟩
end Go.Proofs.YtfdfjmibjnmhpaaGreat.V

namespace Go.Proofs.YtfdfjmibjnmhpaaGreat.V
open Go.RowKit Go.Proofs.YtfdfjmibjnmhpaaGreat.B

/-- The marks on votes that are none, or lie in block g. -/
theorem markV_any (A : Option Addr) (n c g : Nat) (t : TypeId) (k : Int) (w : World) (h : 0 < n → A = some ⟨g, 0, none⟩ ∧ ∃ cs, Blk w g t cs ∧ n * 2 ≤ cs.size) (hn : n ≤ 1048576) (h0 : 0 ≤ k) (h1 : k ≤ 16777216) :
    Calls Tryz.prog 44 #[.slice A n c, .int .i64 k] w fun e w' => e = .returned (.int .i64 (k + 2 * n)) ∧ (0 < n → ∃ cs, Blk w' g t cs ∧ n * 2 ≤ cs.size ∧ MK cs k n) ∧ w.grownBy w' (some g) ∧ (n = 0 → w = w') := by
  by_cases e : n = 0
  · subst e
    refine (markNil A c k w).mono ?_
    rintro e w' ⟨rfl, rfl⟩
    exact ⟨by simp, fun h => absurd h (by omega), World.grownBy.refl w _, fun _ => rfl⟩
  · obtain ⟨rfl, cs, hb, hs⟩ := h (by omega)
    refine (mark_any g n c t cs k w hb hs hn h0 h1).mono ?_
    rintro e' w' ⟨rfl, cs', hb', hs', hm, hg⟩
    exact ⟨rfl, fun _ => ⟨cs', hb', by omega, hm⟩, hg, fun h => absurd h e⟩
theorem heldV_any (A : Option Addr) (n c g : Nat) (t : TypeId) (k : Int) (w : World) (h : 0 < n → A = some ⟨g, 0, none⟩ ∧ ∃ cs, Blk w g t cs ∧ MK cs k n) (hn : n ≤ 1048576) (h0 : 0 ≤ k) (h1 : k ≤ 16777216) :
    Calls Tryz.prog 45 #[.slice A n c, .int .i64 k] w fun e w' => e = .returned (.int .i64 (k + 2 * n)) ∧ w = w' := by
  by_cases e : n = 0
  · subst e
    refine (heldNil A c k w).mono ?_
    rintro e w' ⟨rfl, rfl⟩
    exact ⟨by simp, rfl⟩
  · obtain ⟨rfl, cs, hb, hm⟩ := h (by omega)
    exact held_any g n c t cs k w hb hm hn h0 h1
end Go.Proofs.YtfdfjmibjnmhpaaGreat.V

namespace Go.Proofs.YtfdfjmibjnmhpaaGreat.B
open Go.RowKit

/-- How an element of a kind lies in memory: its cells, and how its parts read. -/
structure Knd (α : Type) where
  s : Nat
  cells : α → Array Value
  rd : World → Nat → α → Prop
  z : α
  pos : 0 < s
  size : ∀ p, (cells p).size = s
  keep : ∀ {w w' : World} {Bd : Nat} {p : α}, rd w Bd p → (∀ b o, b < Bd → w'.cell? ⟨b, o, none⟩ = w.cell? ⟨b, o, none⟩) → rd w' Bd p
  more : ∀ {w : World} {Bd Bd' : Nat} {p : α}, rd w Bd p → Bd ≤ Bd' → rd w Bd' p
  own : World → Nat → α → Prop
  okeep : ∀ {w w' : World} {lo : Nat} {p : α}, own w lo p → (∀ g, lo ≤ g → g < w.heap.size → w'.heap[g]? = w.heap[g]?) → own w' lo p
  olow : ∀ {w : World} {lo lo' : Nat} {p : α}, own w lo p → lo' ≤ lo → own w lo' p

section
variable {α : Type} {K : Knd α} {w w' w1 : World} {Bd Bd' lo lo' n : Nat} {A : Option Addr} {xs : List α} {p : α}
/-- A slice value at address A reads, below block Bd, as xs. -/
def RdK (K : Knd α) (w : World) (Bd : Nat) (A : Option Addr) (xs : List α) : Prop :=
  0 < xs.length → ∃ b off, A = some ⟨b, off, none⟩ ∧ b < Bd ∧ ∀ i, i < xs.length → (∀ j, j < K.s → w.cell? ⟨b, off + i * K.s + j, none⟩ = (K.cells (xs.getD i K.z))[j]?) ∧ K.rd w Bd (xs.getD i K.z)
theorem RdK.keep (h : RdK K w Bd A xs) (hk : ∀ b o, b < Bd → w'.cell? ⟨b, o, none⟩ = w.cell? ⟨b, o, none⟩) : RdK K w' Bd A xs := fun hn => by
  obtain ⟨b, off, e, hb, hc⟩ := h hn
  exact ⟨b, off, e, hb, fun i hi => ⟨fun j hj => (hk _ _ hb).trans ((hc i hi).1 j hj), K.keep (hc i hi).2 hk⟩⟩
theorem RdK.more (h : RdK K w Bd A xs) (hB : Bd ≤ Bd') : RdK K w Bd' A xs := fun hn => by
  obtain ⟨b, off, e, hb, hc⟩ := h hn
  exact ⟨b, off, e, by omega, fun i hi => ⟨(hc i hi).1, K.more (hc i hi).2 hB⟩⟩
theorem RdK.below (h : RdK K w Bd A xs) (hb : Below Bd w w') : RdK K w' Bd A xs := h.keep fun _ _ hp => hb.cell hp
theorem RdK.alloc (h : RdK K w Bd A xs) (hB : Bd ≤ w.heap.size) (o : Obj) : RdK K (w.alloc o) Bd A xs := h.keep fun b o' hp => World.cell?_alloc_lt w o ⟨b, o', none⟩ (by simpa using (show b < w.heap.size by omega))
theorem RdK.on (h : RdK K w w.heap.size A xs) (hb : Below w.heap.size w w') : RdK K w' w'.heap.size A xs := (h.below hb).more hb.size
theorem RdK.up (h : RdK K w w.heap.size A xs) (O : Obj) : RdK K (w.alloc O) (w.alloc O).heap.size A xs := (h.alloc (Nat.le_refl _) O).more (by simp)
theorem RdK.dr (h : RdK K w w.heap.size A xs) : RdK K w.drew w.drew.heap.size A xs := h.keep fun _ _ _ => rfl
theorem RdK.nil_ : RdK K w Bd A [] := fun h => absurd h (by simp)
theorem RdK.at_ (h : RdK K w Bd A xs) {k : Nat} (hk : k < xs.length) : ∃ b off, A = some ⟨b, off, none⟩ ∧ b < Bd ∧ (∀ j, j < K.s → w.cell? ⟨b, off + k * K.s + j, none⟩ = (K.cells (xs.getD k K.z))[j]?) ∧ K.rd w Bd (xs.getD k K.z) := by
  obtain ⟨b, off, rfl, hb, hc⟩ := h (by omega)
  exact ⟨b, off, rfl, hb, (hc k hk).1, (hc k hk).2⟩

/-- A reading that turns on no block below lo. -/
def Hi (R : World → Nat → Prop) (w : World) (lo : Nat) : Prop := ∀ w' : World, (∀ b o, lo ≤ b → b < w.heap.size → w'.cell? ⟨b, o, none⟩ = w.cell? ⟨b, o, none⟩) → R w' w.heap.size
theorem Hi.rd {R : World → Nat → Prop} (h : Hi R w lo) : R w w.heap.size := h w fun _ _ _ _ => rfl
theorem Hi.keep {R : World → Nat → Prop} (hm : ∀ {w : World} {Bd Bd' : Nat}, R w Bd → Bd ≤ Bd' → R w Bd') (h : Hi R w lo) (hs : w.heap.size ≤ w1.heap.size) (hk : ∀ b o, lo ≤ b → b < w.heap.size → w1.cell? ⟨b, o, none⟩ = w.cell? ⟨b, o, none⟩) : Hi R w1 lo := fun w' h' =>
  hm (h w' fun b o h1 h2 => (h' b o h1 (by omega)).trans (hk b o h1 h2)) hs
theorem Hi.low {R : World → Nat → Prop} (h : Hi R w lo) (hl : lo' ≤ lo) : Hi R w lo' := fun w' h' => h w' fun b o h1 h2 => h' b o (by omega) h2
/-- A row in a block of its own from lo on, and what its elements own. -/
def OwnX (K : Knd α) (w : World) (lo : Nat) (A : Option Addr) (xs : List α) : Prop :=
  0 < xs.length → ∃ (t : TypeId) (g : Nat) (cs : Array Value), A = some ⟨g, 0, none⟩ ∧ lo ≤ g ∧ Blk w g t cs ∧ xs.length * K.s ≤ cs.size ∧ ∀ i, i < xs.length → (∀ j, j < K.s → cs[i * K.s + j]? = (K.cells (xs.getD i K.z))[j]?) ∧ K.own w lo (xs.getD i K.z)
theorem OwnX.keep (h : OwnX K w lo A xs) (hk : ∀ g, lo ≤ g → g < w.heap.size → w'.heap[g]? = w.heap[g]?) : OwnX K w' lo A xs := fun h0 => by
  obtain ⟨t, g, cs, e, hg, hb, hz, hc⟩ := h h0
  exact ⟨t, g, cs, e, hg, (hk g hg hb.lt).trans hb, hz, fun i hi => ⟨(hc i hi).1, K.okeep (hc i hi).2 hk⟩⟩
theorem OwnX.low (h : OwnX K w lo A xs) (hl : lo' ≤ lo) : OwnX K w lo' A xs := fun h0 => by
  obtain ⟨t, g, cs, e, hg, hb, hz, hc⟩ := h h0
  exact ⟨t, g, cs, e, by omega, hb, hz, fun i hi => ⟨(hc i hi).1, K.olow (hc i hi).2 hl⟩⟩
/-- The parts of an element, in blocks of their own from lo on. -/
def HiK (K : Knd α) (w : World) (lo : Nat) (p : α) : Prop := Hi (fun w Bd => K.rd w Bd p) w lo ∧ K.own w lo p
theorem HiK.on (h : HiK K w lo p) (hb : Below w.heap.size w w1) : HiK K w1 lo p := ⟨Hi.keep (fun h => K.more h) h.1 hb.size fun b o _ h2 => hb.cell (p := ⟨b, o, none⟩) h2, K.okeep h.2 fun g _ h2 => hb.block g h2⟩
theorem HiK.set_ (h : HiK K w lo p) {q : Addr} (hp : q.block < lo) (u : Value) : HiK K (w.setCell q u) lo p :=
  ⟨Hi.keep (fun h => K.more h) h.1 (by simp [World.setCell]) fun b o h1 _ => World.cell?_setCell_other w q ⟨b, o, none⟩ u (fun e => by subst e; simp at hp; omega), K.okeep h.2 fun g h1 _ => Below.heap_setCell w q u g (by omega)⟩
theorem HiK.low (h : HiK K w lo p) (hl : lo' ≤ lo) : HiK K w lo' p := ⟨Hi.low h.1 hl, K.olow h.2 hl⟩
theorem HiK.rd (h : HiK K w lo p) : K.rd w w.heap.size p := Hi.rd h.1

/-- Values stored one behind the other. -/
def putA (cs : Array Value) : Nat → List Value → Array Value
  | _, [] => cs
  | k, v :: vs => putA (cs.setIfInBounds k v) (k + 1) vs
def putW (w : World) (g : Nat) : Nat → List Value → World
  | _, [] => w
  | k, v :: vs => putW (w.setCell ⟨g, k, none⟩ v) g (k + 1) vs
theorem putA_size : ∀ (cs : Array Value) (k : Nat) (vs : List Value), (putA cs k vs).size = cs.size
  | _, _, [] => rfl
  | cs, k, v :: vs => by rw [putA, putA_size, Array.size_setIfInBounds]
theorem putA_far : ∀ (cs : Array Value) (k : Nat) (vs : List Value) (m : Nat), m < k → (putA cs k vs)[m]? = cs[m]?
  | _, _, [], _, _ => rfl
  | cs, k, v :: vs, m, h => by rw [putA, putA_far _ _ _ _ (by omega), Array.getElem?_setIfInBounds_ne (by omega)]
theorem putA_past : ∀ (cs : Array Value) (k : Nat) (vs : List Value) (m : Nat), k + vs.length ≤ m → (putA cs k vs)[m]? = cs[m]?
  | _, _, [], _, _ => rfl
  | cs, k, v :: vs, m, h => by
    simp only [List.length_cons] at h
    rw [putA, putA_past _ _ _ _ (by omega), Array.getElem?_setIfInBounds_ne (by omega)]
theorem putA_at : ∀ (cs : Array Value) (k : Nat) (vs : List Value) (j : Nat), k + vs.length ≤ cs.size → j < vs.length → (putA cs k vs)[k + j]? = vs[j]?
  | _, _, [], _, _, h => absurd h (by simp)
  | cs, k, v :: vs, 0, h, _ => by
    simp only [List.length_cons] at h
    rw [putA, putA_far _ _ _ _ (by omega)]
    simp only [Nat.add_zero]
    rw [Array.getElem?_setIfInBounds_self_of_lt (by omega)]
    rfl
  | cs, k, v :: vs, j + 1, h, hj => by
    simp only [List.length_cons] at h hj
    rw [putA, show k + (j + 1) = k + 1 + j by omega, putA_at _ _ _ _ (by simp; omega) (by omega)]
    rfl
theorem Blk.putW : ∀ {w : World} {g : Nat} {t : TypeId} {cs : Array Value} (k : Nat) (vs : List Value), Blk w g t cs → Blk (B.putW w g k vs) g t (putA cs k vs)
  | _, _, _, _, _, [], h => h
  | _, _, _, _, k, v :: vs, h => Blk.putW (k + 1) vs (h.set_ k v)
theorem HiK.putW : ∀ {w : World} {g lo : Nat} {p : α} (k : Nat) (vs : List Value), HiK K w lo p → g < lo → HiK K (B.putW w g k vs) lo p
  | _, _, _, _, _, [], h, _ => h
  | _, _, _, _, k, v :: vs, h, hg => HiK.putW (k + 1) vs (h.set_ hg v) hg
theorem Below.putW : ∀ {Bd : Nat} {a w : World} {g : Nat} (k : Nat) (vs : List Value), Below Bd a w → Bd ≤ g → Below Bd a (B.putW w g k vs)
  | _, _, _, _, _, [], h, _ => h
  | _, _, _, _, k, v :: vs, h, hg => Below.putW (k + 1) vs (h.setCell hg v) hg
theorem size_putW : ∀ {w : World} {g : Nat} (k : Nat) (vs : List Value), (B.putW w g k vs).heap.size = w.heap.size
  | _, _, _, [] => rfl
  | w, g, k, v :: vs => by rw [B.putW, size_putW]; simp [World.setCell]

/-- The first k of n, copied to the block g. -/
def CpK {β : Type} (K : Knd α) (dat : α → β) (w : World) (g n : Nat) (cs : Array Value) (xs qs : List α) (k : Nat) : Prop :=
  qs.length = k ∧ qs.map dat = (xs.map dat).take k ∧ cs.size = n * K.s ∧ ∀ i, i < k → (∀ j, j < K.s → cs[i * K.s + j]? = (K.cells (qs.getD i K.z))[j]?) ∧ HiK K w (g + 1) (qs.getD i K.z)
section
variable {β : Type} {dat : α → β} {g : Nat} {cs : Array Value} {qs : List α} {k : Nat}
theorem CpK.zero (h : cs.size = n * K.s) : CpK K dat w g n cs xs [] 0 := ⟨rfl, by simp, h, fun i hi => absurd hi (by omega)⟩
theorem CpK.step (h : CpK K dat w g n cs xs qs k) (hk : k < n) (hn : xs.length = n) (u : α) (hu : dat u = dat (xs.getD k K.z)) (hb : Below w.heap.size w w1) (hg : HiK K w1 (g + 1) u) :
    CpK K dat (putW w1 g (k * K.s) (K.cells u).toList) g n (putA cs (k * K.s) (K.cells u).toList) xs (qs ++ [u]) (k + 1) := by
  obtain ⟨h1, h2, h3, h4⟩ := h
  have hl : (K.cells u).toList.length = K.s := by simpa using K.size u
  have hm : k * K.s + K.s ≤ cs.size := by
    rw [h3, show k * K.s + K.s = (k + 1) * K.s by rw [Nat.succ_mul]]
    exact Nat.mul_le_mul_right _ (by omega)
  refine ⟨by simp [h1], ?_, by rw [putA_size]; exact h3, fun i hi => ?_⟩
  · have hk' : k < (xs.map dat).length := by simp; omega
    rw [List.take_succ_eq_append_getElem hk', ← h2, List.map_append, List.map_cons, List.map_nil, hu]
    congr 2
    simp [List.getD_eq_getElem?_getD, List.getElem?_eq_getElem (show k < xs.length by omega)]
  · by_cases e : i = k
    · subst e
      rw [getD_app_end h1]
      refine ⟨fun j hj => ?_, hg.putW _ _ (by omega)⟩
      rw [putA_at _ _ _ _ (by omega) (by omega)]
      simp
    · rw [getD_app_lt (by omega)]
      refine ⟨fun j hj => ?_, ((h4 i (by omega)).2.on hb).putW _ _ (by omega)⟩
      rw [putA_far _ _ _ _ ?_]
      · exact (h4 i (by omega)).1 j hj
      · have : (i + 1) * K.s ≤ k * K.s := Nat.mul_le_mul_right _ (by omega)
        rw [Nat.succ_mul] at this
        omega
theorem CpK.rd {t : TypeId} (h : CpK K dat w g n cs xs qs n) (hb : Blk w g t cs) : RdK K w w.heap.size (some ⟨g, 0, none⟩) qs := fun _ =>
  ⟨g, 0, rfl, hb.lt, fun i hi => ⟨fun j hj => by
    rw [Nat.zero_add, hb.cell]
    exact (h.2.2.2 i (by rw [h.1] at hi; exact hi)).1 j hj, (h.2.2.2 i (by rw [h.1] at hi; exact hi)).2.rd⟩⟩
theorem CpK.hi {t : TypeId} (h : CpK K dat w g n cs xs qs n) (hb : Blk w g t cs) (hl : lo ≤ g) : Hi (fun w Bd => RdK K w Bd (some ⟨g, 0, none⟩) qs) w lo := fun w' hk _ =>
  ⟨g, 0, rfl, hb.lt, fun i hi => ⟨fun j hj => by
    rw [Nat.zero_add, hk g _ hl hb.lt, hb.cell]
    exact (h.2.2.2 i (by rw [h.1] at hi; exact hi)).1 j hj, (h.2.2.2 i (by rw [h.1] at hi; exact hi)).2.1 w' fun b o h1 h2 => hk b o (by omega) h2⟩⟩
theorem CpK.own {t : TypeId} (h : CpK K dat w g n cs xs qs n) (hb : Blk w g t cs) (hl : lo ≤ g) : OwnX K w lo (some ⟨g, 0, none⟩) qs := fun _ =>
  ⟨t, g, cs, rfl, hl, hb, by rw [h.1, h.2.2.1]; exact Nat.le_refl _, fun i hi => ⟨(h.2.2.2 i (by rw [h.1] at hi; exact hi)).1, K.olow (h.2.2.2 i (by rw [h.1] at hi; exact hi)).2.2 (by omega)⟩⟩
theorem CpK.same (h : CpK K dat w g n cs xs qs n) (hn : xs.length = n) : qs.map dat = xs.map dat := by
  rw [h.2.1, List.take_of_length_le (by simp; omega)]
theorem same_len {xs ys : List α} (h : ys.map dat = xs.map dat) : ys.length = xs.length := by simpa using congrArg List.length h
theorem same_at {xs ys : List α} {z : α} (h : ys.map dat = xs.map dat) (k : Nat) : dat (ys.getD k z) = dat (xs.getD k z) := by
  have hm : ∀ l : List α, (l.map dat).getD k (dat z) = dat (l.getD k z) := fun l => by
    simp only [List.getD_eq_getElem?_getD, List.getElem?_map]
    cases l[k]? <;> rfl
  rw [← hm, h, hm]
end

/-- How much the first k hold. -/
def tkS (f : α → Nat) (z : α) (xs : List α) : Nat → Nat
  | 0 => 0
  | k + 1 => tkS f z xs k + f (xs.getD k z)
theorem tkS_mono (f : α → Nat) (z : α) (xs : List α) {i j : Nat} (h : i ≤ j) : tkS f z xs i ≤ tkS f z xs j := by
  induction j with
  | zero => obtain rfl : i = 0 := by omega
            exact Nat.le_refl _
  | succ j ih =>
    by_cases e : i = j + 1
    · subst e; exact Nat.le_refl _
    · have := ih (by omega)
      simp only [tkS]; omega
theorem tkS_one (f : α → Nat) (z : α) (xs : List α) {i j : Nat} (h : i < j) : f (xs.getD i z) ≤ tkS f z xs j := by
  have := tkS_mono f z xs (show i + 1 ≤ j by omega)
  simp only [tkS] at this
  omega
end
end Go.Proofs.YtfdfjmibjnmhpaaGreat.B
