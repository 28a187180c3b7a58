/-
  A row of commands on a store: what comes of it, and what the loops carry. No statement is proved here.
-/
import Derived.Test.YtbogagddjkghhaaDoorStDo
set_option linter.unusedVariables false
set_option maxRecDepth 100000
namespace Go.Proofs.YtbogagddjkghhaaDoor.V
open Go.RowKit Go.Proofs.YtbogagddjkghhaaDoor.B
def rStep (xs : List Int) (v : Int) : List Int := if okV v then doX xs (kV v) (yV v).toNat (nV v) else xs
def rM (m v : Int) : Int := if okV v then m + 1 else m
def rT (xs : List Int) (v : Int) : Int := if okV v then xs.getD (yV v).toNat 0 else -1
def runX : List Int → List Int → List Int
  | xs, [] => xs
  | xs, v :: l => runX (rStep xs v) l
def runM : Int → List Int → Int
  | m, [] => m
  | m, v :: l => runM (rM m v) l
def runT : List Int → List Int → List Int
  | _, [] => []
  | xs, v :: l => rT xs v :: runT (rStep xs v) l
theorem runX_app (xs a b : List Int) : runX xs (a ++ b) = runX (runX xs a) b := by
  induction a generalizing xs with
  | nil => rfl
  | cons v a ih => exact ih _
theorem runM_app (m : Int) (a b : List Int) : runM m (a ++ b) = runM (runM m a) b := by
  induction a generalizing m with
  | nil => rfl
  | cons v a ih => exact ih _
theorem runT_app (xs a b : List Int) : runT xs (a ++ b) = runT xs a ++ runT (runX xs a) b := by
  induction a generalizing xs with
  | nil => rfl
  | cons v a ih => simp only [List.cons_append, runT, runX, ih]
theorem runT_len (xs l : List Int) : (runT xs l).length = l.length := by
  induction l generalizing xs with
  | nil => rfl
  | cons v a ih => simp only [runT, List.length_cons, ih]
theorem runM_le (m : Int) (l : List Int) : m ≤ runM m l ∧ runM m l ≤ m + l.length := by
  induction l generalizing m with
  | nil => simp [runM]
  | cons v a ih =>
    have := ih (rM m v)
    have h : rM m v = m + 1 ∨ rM m v = m := by unfold rM; split <;> simp
    simp only [runM, List.length_cons]
    rcases h with h | h <;> rw [h] at this ⊢ <;> omega
def inR (xs : List Int) : Prop := xs.length = 4 ∧ ∀ j, j < 4 → 0 ≤ xs.getD j 0 ∧ xs.getD j 0 ≤ 1000
theorem okV_yes {v : Int} (h : okV v = true) : 0 ≤ kV v ∧ kV v ≤ 2 ∧ 0 ≤ yV v ∧ yV v < 4 ∧ 0 ≤ nV v ∧ nV v ≤ 4 := by
  have h1 : kV v = (v - 1) / 20 := by simp [kV, h]
  have h2 : yV v = (v - 1) % 20 / 5 := by simp [yV, h]
  have h3 : nV v = (v - 1) % 5 := by simp [nV, h]
  unfold okV at h
  rw [Bool.and_eq_true] at h
  obtain ⟨a, b, c, d, e, g, _⟩ := cmdB_yes h.2
  rw [h1, h2, h3]
  omega
theorem doX_in {xs : List Int} {k n : Int} {y : Nat} (h : inR xs) (hn0 : 0 ≤ n) (hn1 : n ≤ 4) (hy : y < 4) : inR (doX xs k y n) := by
  refine ⟨by rw [doX_len]; exact h.1, fun j hj => ?_⟩
  have hl := h.1
  have hx := h.2 y hy
  by_cases e : j = y
  · subst e
    have : (doX xs k j n).getD j 0 = doN k n (xs.getD j 0) := by
      unfold doX
      rw [List.getD_eq_getElem?_getD, List.getElem?_set_self (by omega)]
      rfl
    rw [this]
    unfold doN growN
    split
    · omega
    · split
      · split <;> omega
      · exact hx
  · have : (doX xs k y n).getD j 0 = xs.getD j 0 := by
      unfold doX
      rw [List.getD_eq_getElem?_getD, List.getElem?_set_ne (Ne.symm e), List.getD_eq_getElem?_getD]
    rw [this]
    exact h.2 j hj
theorem rStep_in {xs : List Int} {v : Int} (h : inR xs) : inR (rStep xs v) := by
  unfold rStep
  rcases hq : okV v with _ | _
  · exact h
  · obtain ⟨_, _, h2, h3, h4, h5⟩ := okV_yes hq
    exact doX_in h h4 h5 (by omega)
theorem runX_in {xs l : List Int} (h : inR xs) : inR (runX xs l) := by
  induction l generalizing xs with
  | nil => exact h
  | cons v a ih => exact ih (rStep_in h)
theorem inR_of {xs : List Int} {m : Int} (h : stB xs m = true) : inR xs := ⟨(stB_yes h).1, fun j hj => (stB_yes h).2.2.2 j (by rw [(stB_yes h).1]; exact hj)⟩
theorem take_snoc9 (l : List Int) (k : Nat) (h : k < l.length) : l.take (k + 1) = l.take k ++ [l.getD k 0] := take_snoc7 l 0 k h
theorem runX_step (xs l : List Int) (k : Nat) (h : k < l.length) : runX xs (l.take (k + 1)) = rStep (runX xs (l.take k)) (l.getD k 0) := by rw [take_snoc9 l k h, runX_app]; rfl
theorem runM_step (m : Int) (l : List Int) (k : Nat) (h : k < l.length) : runM m (l.take (k + 1)) = rM (runM m (l.take k)) (l.getD k 0) := by rw [take_snoc9 l k h, runM_app]; rfl
theorem runT_step (xs l : List Int) (k : Nat) (h : k < l.length) : runT xs (l.take (k + 1)) = runT xs (l.take k) ++ [rT (runX xs (l.take k)) (l.getD k 0)] := by rw [take_snoc9 l k h, runT_app]; rfl

def srQ (vs : List Int) (m : Int) (l : List Int) : Bool := stB vs m && decide ((l.length : Int) ≤ 1000 - m)
def srX (vs : List Int) (m : Int) (l : List Int) : List Int := if srQ vs m l then runX vs l else []
def srM (vs : List Int) (m : Int) (l : List Int) : Int := if srQ vs m l then runM m l else 0
def srT (vs : List Int) (m : Int) (l : List Int) : List Int := if srQ vs m l then runT vs l else []
theorem sr_no {vs : List Int} {m : Int} {l : List Int} (h : srQ vs m l = false) : srX vs m l = [] ∧ srM vs m l = 0 ∧ srT vs m l = [] := by simp [srX, srM, srT, h]
theorem sr_yes {vs : List Int} {m : Int} {l : List Int} (h : srQ vs m l = true) : srX vs m l = runX vs l ∧ srM vs m l = runM m l ∧ srT vs m l = runT vs l := by simp [srX, srM, srT, h]
/-- A store and a row of answers, both of the call's own. -/
def SR (us : List Int) (m : Int) (ts : List Int) (q : Bool) (w : World) (e : Ending) (w' : World) : Prop :=
  ∃ A d B d2, e = .returned (.tuple #[.agg #[.slice A us.length d, .int .i64 m], .slice B ts.length d2, .bool q]) ∧ OI w' 3 w.heap.size A us ∧ OI w' 3 w.heap.size B ts ∧ (∀ g, A = some ⟨g, 0, none⟩ → B ≠ some ⟨g, 0, none⟩) ∧ Below w.heap.size w w'

/-- What the loops carry: the store's box and row, and the answers so far. -/
def SRel (base : Nat) (wr : World) (o : Nat) (tv : Value) (B : Option Addr) (d : Nat) (xs : List Int) (mm : Int) (ts : List Int) : Prop :=
  Blk wr o 46 #[.slice B 4 d, .int .i64 mm] ∧ OI wr 3 base B xs ∧ wr.ownsRow base 3 1 tv ts.length (ic ts) ∧ (∀ g, B = some ⟨g, 0, none⟩ → tv.ownBlock ≠ some g)
theorem own_ne7 {w : World} {b o n : Nat} {v : Value} {xs cs} (h : w.ownsRow b 3 1 v n xs) (hk : Blk w o 46 cs) : v.ownBlock ≠ some o := by
  rcases h.2 with ⟨rfl, _⟩ | ⟨g, cap, cur, rfl, _, h3, _⟩
  · simp [Value.ownBlock]
  · intro e
    simp only [Value.ownBlock] at e
    injection e with e
    subst e
    have h1 := h3.symm.trans hk
    injection h1 with h1
    injection h1 with _ h1
    exact absurd h1 (by decide)
theorem own_set7 {w : World} {b o n : Nat} {v : Value} {xs cs} (h : w.ownsRow b 3 1 v n xs) (hk : Blk w o 46 cs) (i : Nat) (u : Value) : (w.setCell ⟨o, i, none⟩ u).ownsRow b 3 1 v n xs := by
  have hne := own_ne7 h hk
  refine ⟨h.1, ?_⟩
  rcases h.2 with h1 | ⟨g, cap, cur, rfl, h2, h3, h4⟩
  · exact .inl h1
  · refine .inr ⟨g, cap, cur, rfl, h2, (Below.heap_setCell w _ u g (fun e => hne (by simp only [Value.ownBlock]; rw [e]))).trans h3, h4⟩
theorem oi_ne7 {w : World} {t base o : Nat} {B : Option Addr} {xs : List Int} {cs} (h : OI w 3 base B xs) (hk : Blk w o 46 cs) : ∀ g, B = some ⟨g, 0, none⟩ → g ≠ o := by
  intro g e eo
  rcases h with ⟨rfl, _⟩ | ⟨g2, cur, rfl, _, hb, _⟩
  · cases e
  · injection e with e
    injection e with e
    subst e eo
    have h1 := hb.symm.trans hk
    injection h1 with h1
    injection h1 with _ h1
    exact absurd h1 (by decide)
theorem oi_set7 {w : World} {base o : Nat} {B : Option Addr} {xs : List Int} {cs} (h : OI w 3 base B xs) (hk : Blk w o 46 cs) (i : Nat) (u : Value) : OI (w.setCell ⟨o, i, none⟩ u) 3 base B xs := by
  have hne := oi_ne7 (t := 0) h hk
  rcases h with h | ⟨g2, cur, rfl, hb2, hk2, hq2⟩
  · exact .inl h
  · exact .inr ⟨g2, cur, rfl, hb2, hk2.far (hne g2 rfl) _, hq2⟩
section
variable {base o d : Nat} {wr w' : World} {tv : Value} {B : Option Addr} {xs ts : List Int} {mm : Int}
theorem SRel.on (h : SRel base wr o tv B d xs mm ts) (hb : Below wr.heap.size wr w') : SRel base w' o tv B d xs mm ts := ⟨h.1.on hb, h.2.1.on hb, own7 h.2.2.1 hb, h.2.2.2⟩
theorem SRel.up (h : SRel base wr o tv B d xs mm ts) (O : Obj) : SRel base (wr.alloc O) o tv B d xs mm ts := h.on ((Below.refl _ _).alloc (Nat.le_refl _) O)
theorem SRel.app (h : SRel base wr o tv B d xs mm ts) {t : Int} {v2 : Value} (hown : w'.ownsRow base 3 1 v2 (ts.length + 1) (ic ts ++ [.int .i64 t])) (hgr : wr.grownBy w' tv.ownBlock) (hat : v2.ownBlock = tv.ownBlock ∨ v2.ownBlock = some wr.heap.size) : SRel base w' o v2 B d xs mm (ts ++ [t]) := by
  obtain ⟨h1, h2, h3, h4⟩ := h
  refine ⟨keepK h1 hgr (own_ne7 h3 h1), ?_, own_app1 hown, fun g e => ?_⟩
  · exact OI.keep h2 hgr (fun g e => h4 g e)
  · rcases hat with hat | hat
    · rw [hat]; exact h4 g e
    · rw [hat]
      have := h2.lt g e
      intro he
      injection he with he
      omega
theorem SRel.put (h : SRel base wr o tv B d xs mm ts) {B2 : Option Addr} {d2 : Nat} {us : List Int} {m2 : Int} (h2 : OI wr 3 base B2 us) (hd : ∀ g, B2 = some ⟨g, 0, none⟩ → tv.ownBlock ≠ some g) :
    SRel base ((wr.setCell ⟨o, 0, none⟩ (.slice B2 4 d2)).setCell ⟨o, 1, none⟩ (.int .i64 m2)) o tv B2 d2 us m2 ts := by
  have k1 := h.1.set_ 0 (.slice B2 4 d2)
  exact ⟨(h.1.set_ 0 _).set_ 1 _, oi_set7 (oi_set7 h2 h.1 0 _) k1 1 _, own_set7 (own_set7 h.2.2.1 h.1 0 _) k1 1 _, hd⟩
theorem own_fresh {n : Nat} {cs : List Value} (h : wr.ownsRow base 3 1 tv n cs) {B2 : Option Addr} {us : List Int} (h2 : OI w' 3 wr.heap.size B2 us) : ∀ g, B2 = some ⟨g, 0, none⟩ → tv.ownBlock ≠ some g := by
  intro g e he
  have h3 := h2.ge g e
  have := (h.lt g he).2
  omega
theorem ic_of_own {v : Value} (h : wr.ownsRow base 3 1 v ts.length (ic ts)) : ∃ A c, v = .slice A ts.length c ∧ OI wr 3 base A ts := by
  obtain ⟨A, c, rfl⟩ := form7 h
  exact ⟨A, c, rfl, (OI.of_own (xs := ts) h).2⟩
theorem own_block {v : Value} {A : Option Addr} {n c : Nat} (e : v = .slice A n c) {g : Nat} (h : A = some ⟨g, 0, none⟩) : v.ownBlock = some g := by subst e h; rfl
end
end Go.Proofs.YtbogagddjkghhaaDoor.V
