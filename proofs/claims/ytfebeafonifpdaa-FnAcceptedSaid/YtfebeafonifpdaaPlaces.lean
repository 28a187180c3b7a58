/-
  The map from places to values that the program makes of a tally: what it holds, and its laws. No statement is proved here.
-/
import Derived.Test.YtfebeafonifpdaaTallyOpen
import Derived.Maps.RangeWalk
import Derived.Maps.Ext
import Derived.WideKeyPair
import Derived.DeepKeys4
set_option linter.unusedVariables false
set_option maxRecDepth 100000
namespace Go.Proofs.Ytfebeafonifpdaa.V
open Go.RowKit Go.Proofs.Ytfebeafonifpdaa.B

abbrev wfI (n : Int) : Prop := (Lit.int .i64 n).wf = true
theorem arrP : WideMaps.ArrKey Try.prog 109 3 2 := ⟨Try.underlying109, by kernel_rfl, by kernel_rfl, by kernel_rfl⟩
theorem placeLaw : Maps.Keyed Try.prog 109 := Maps.Keyed.of_law arrP.law
theorem types_more : ∃ m, Try.prog.types.size = m + 1 := ⟨Try.prog.types.size - 1, by have : 0 < Try.prog.types.size := of_decide_eq_true (by kernel_rfl); omega⟩
def pk (p q : Int) : Lit := .string (keyBytes [.int .i64 p, .int .i64 q])
theorem pk_key {p q : Int} (hp : wfI p) (hq : wfI q) : keyOf Try.prog 109 (.agg #[.int .i64 p, .int .i64 q]) = some (pk p q) :=
  WideMaps.keyOf_pair arrP Try.underlying3 types_more hp hq
theorem pk_inj {p q p' q' : Int} (hp : wfI p) (hq : wfI q) (hp' : wfI p') (hq' : wfI q') (h : pk p q = pk p' q') : p = p' ∧ q = q' := by
  have := placeLaw.inj (pk_key hp hq) (h ▸ pk_key hp' hq')
  simpa using this
theorem pk_isKey {p q : Int} (hp : wfI p) (hq : wfI q) : WideAt.IsKeyLit (pk p q) := placeLaw.key (pk_key hp hq)
theorem cell_inv {m : Nat} {c : Value} {ls : List Lit} (h : Try.prog.keyLits (m + 1) 3 [c] = some ls) : ∃ a, c = .int .i64 a ∧ wfI a ∧ ls = [.int .i64 a] := by
  unfold Program.keyLits at h
  rw [Try.underlying3] at h
  cases c <;> simp at h
  obtain ⟨⟨rfl, hw⟩, rfl⟩ := h
  exact ⟨_, rfl, hw, rfl⟩
theorem pk_inv {key : Value} {kl : Lit} (h : keyOf Try.prog 109 key = some kl) : ∃ p q, key = .agg #[.int .i64 p, .int .i64 q] ∧ wfI p ∧ wfI q ∧ kl = pk p q := by
  have h0 := h
  unfold keyOf at h
  simp only [arrP.hu] at h
  split at h
  case isFalse => cases h
  rename_i hf
  simp only [Bool.and_eq_true] at hf
  have hf2 := hf.2
  obtain ⟨cs, rfl, hcs⟩ : ∃ cs, key = .agg cs ∧ cs.size = 2 := by
    cases key <;> simp [Value.formed, arrP.hu, arrP.size] at hf2
    exact ⟨_, rfl, hf2⟩
  obtain ⟨l⟩ := cs
  match l, hcs with
  | [c0, c1], _ =>
    obtain ⟨m, hm⟩ := types_more
    rw [hm] at h
    unfold Program.keyLits at h
    simp only [arrP.hu, Value.cells] at h
    rw [if_pos (by rw [arrP.size]; rfl), show List.range 2 = [0, 1] from rfl, List.mapM_cons, List.mapM_cons, List.mapM_nil] at h
    simp only [arrP.one, bind, Option.map_eq_some_iff, Option.bind_eq_some_iff, pure, Option.some.injEq] at h
    obtain ⟨_, ⟨_, ⟨l0, h0', _, ⟨l1, h1', _, rfl, rfl⟩, rfl⟩, rfl⟩, rfl⟩ := h
    obtain ⟨a, ea, ha, rfl⟩ := cell_inv h0'
    obtain ⟨b, eb, hb, rfl⟩ := cell_inv h1'
    subst ea eb
    exact ⟨a, b, rfl, ha, hb, rfl⟩

/-- D holds the ballots L: each at its place, and nothing else. -/
def Holds (D : DataW Unit) (L : List B3) : Prop :=
  Maps.IsMap D ∧ ∀ p q, wfI p → wfI q → Maps.has D (pk p q) = foundQ L p q ∧ (foundQ L p q = true → ∀ z, D.atKey (pk p q) z = .lit (.int .i64 (foundV L p q)))
noncomputable abbrev plI : Value → Option (DataW Unit × List MemPlace) := plainElem (H := Unit) Try.prog 3
/-- v is a nil map, and there are no ballots, or a map that holds them. -/
def Bals (w : World) (v : Value) (L : List B3) : Prop :=
  (v = .map none ∧ L = []) ∨ ∃ b D, v = .map (some b) ∧ w.ownsMap Try.prog 109 plI b L.length D ∧ Holds D L
theorem holds_nil : Holds (.map []) [] := ⟨Maps.isMap_empty, fun p q _ _ => ⟨by simp [Maps.has, foundQ], fun h => by simp [foundQ] at h⟩⟩
theorem found_app (L : List B3) (u : B3) (p q : Int) : foundQ (L ++ [u]) p q = (foundQ L p q || isOf p q u) := by
  simp [foundQ, List.find?_append, List.find?_cons]
  cases h : List.find? (isOf p q) L <;> cases h2 : isOf p q u <;> simp
theorem found_app_old {L : List B3} {u : B3} {p q : Int} (h : foundQ L p q = true) : foundV (L ++ [u]) p q = foundV L p q := by
  unfold foundQ at h
  obtain ⟨x, hx⟩ := Option.isSome_iff_exists.1 h
  simp [foundV, List.find?_append, hx]
theorem found_app_new {L : List B3} {u : B3} {p q : Int} (h : foundQ L p q = false) (h2 : isOf p q u = true) : foundV (L ++ [u]) p q = u.2.2 := by
  have h3 : List.find? (isOf p q) L = none := by simpa [foundQ] using h
  simp [foundV, List.find?_append, h3, h2]
theorem holds_put {D : DataW Unit} {L : List B3} {u : B3} (h : Holds D L) (h1 : wfI u.1) (h2 : wfI u.2.1) (hno : foundQ L u.2.1 u.1 = false) : Holds (D.put (pk u.2.1 u.1) (.lit (.int .i64 u.2.2))) (L ++ [u]) := by
  refine ⟨h.1.put _ _, fun p q hp hq => ?_⟩
  by_cases e : p = u.2.1 ∧ q = u.1
  · obtain ⟨rfl, rfl⟩ := e
    have hi : isOf u.2.1 u.1 u = true := by simp [isOf]
    refine ⟨by rw [Maps.has_put_same h.1 (pk_isKey hp hq), found_app, hi, Bool.or_true], fun _ z => ?_⟩
    rw [Maps.atKey_put_same h.1 (pk_isKey hp hq), found_app_new hno hi]
  · have hne : pk p q ≠ pk u.2.1 u.1 := fun e2 => e (pk_inj hp hq h2 h1 e2)
    have hi : isOf p q u = false := by
      simp only [isOf, decide_eq_false_iff_not]
      exact fun ⟨a, b⟩ => e ⟨a.symm, b.symm⟩
    obtain ⟨a1, a2⟩ := h.2 p q hp hq
    refine ⟨by rw [Maps.has_put_other hne, a1, found_app, hi, Bool.or_false], fun h3 z => ?_⟩
    rw [found_app, hi, Bool.or_false] at h3
    rw [Maps.atKey_put_other hne, a2 h3 z, found_app_old h3]

theorem zeroI (w : World) : (zeroValue 3).run Try.prog w = .ok (.int .i64 0) w := by kernel_rfl
section
variable {w w' : World} {v : Value} {L : List B3}
theorem Bals.kept {row : Option Nat} (h : Bals w v L) (hg : w.grownBy w' row) (hne : ∀ b, v = .map (some b) → some b ≠ row) : Bals w' v L := by
  rcases h with h | ⟨b, D, rfl, h1, h2⟩
  · exact .inl h
  · exact .inr ⟨b, D, rfl, h1.kept hg (hne b rfl), h2⟩
theorem Bals.alloc (h : Bals w v L) (o : Obj) : Bals (w.alloc o) v L := h.kept (World.grownBy_alloc w o none) (by simp)
theorem Bals.drew (h : Bals w v L) : Bals w.drew v L := h
theorem Bals.below {B : Nat} (h : Bals w v L) (hb : Below B w w') (hlt : ∀ b, v = .map (some b) → b < B) : Bals w' v L := by
  rcases h with h | ⟨b, D, rfl, ⟨es, clock, h1, h2⟩, h3⟩
  · exact .inl h
  · exact .inr ⟨b, D, rfl, ⟨es, clock, (hb.block b (hlt b rfl)).trans h1, h2⟩, h3⟩
theorem Bals.lt (h : Bals w v L) : ∀ b, v = .map (some b) → b < w.heap.size := fun b e => by
  rcases h with ⟨rfl, _⟩ | ⟨b', D, rfl, h1, _⟩
  · cases e
  · injection e with e; injection e with e; subst e; exact h1.lt
theorem Bals.on (h : Bals w v L) (hb : Below w.heap.size w w') : Bals w' v L := h.below hb h.lt
theorem Bals.form (h : Bals w v L) : ∃ o, v = .map o := by
  rcases h with ⟨rfl, _⟩ | ⟨b, D, rfl, _⟩ <;> exact ⟨_, rfl⟩
/-- 'val, ok := m[place]'. -/
theorem Bals.look (h : Bals w v L) {p q : Int} (hp : wfI p) (hq : wfI q) :
    (Instr.lookup 92 v (.agg #[.int .i64 p, .int .i64 q]) true).run Try.prog w = .ok (.tuple #[.int .i64 (foundV L p q), .bool (foundQ L p q)]) w := by
  rcases h with ⟨rfl, rfl⟩ | ⟨b, D, rfl, h1, h2⟩
  · rw [Maps.look_nil true placeLaw Try.underlying92 (zeroI w) (pk_key hp hq)]
    rfl
  · obtain ⟨x, ps, hrun, hx⟩ := h1.look_ok placeLaw Try.underlying92 (zeroI w) (plainElem_int Try.underlying3 (by decide)) (pk_key hp hq)
    obtain ⟨c, rfl, hc, hwc⟩ := plainElem_int_inv Try.underlying3 hx
    obtain ⟨a1, a2⟩ := h2.2 p q hp hq
    rw [hrun, a1]
    have hc' := congrArg Prod.fst hc
    simp only at hc'
    rcases hf : foundQ L p q with _ | _
    · rw [Maps.atKey_of_not_has (by rw [a1, hf])] at hc'
      have : c = 0 := by injection hc' with hc'; injection hc' with _ hc'; exact hc'.symm
      have h3 : foundV L p q = 0 := by
        have h3 : List.find? (isOf p q) L = none := by simpa [foundQ] using hf
        simp [foundV, h3]
      rw [this, h3]
    · rw [a2 hf] at hc'
      have : c = foundV L p q := by injection hc' with hc'; injection hc' with _ hc'; exact hc'.symm
      rw [this]
end
theorem wpList_look_bals (w : World) {ops : Array Oper} {rest : List Oper} {o : Oper} {a : Act} {Q : Exit → Act → World → Prop}
    (hg : o.guard = none) (m x : Operand) (hop : o.op = Op.lookup 92 m x true) (v : Value) (L : List B3) (hm : a.eval m = v) (h : Bals w v L) (p q : Int) (hx : a.eval x = .agg #[.int .i64 p, .int .i64 q]) (hp : wfI p) (hq : wfI q)
    (hK : wpList Try.prog ops Q rest (a.put o.dst (.tuple #[.int .i64 (foundV L p q), .bool (foundQ L p q)])) w) : wpList Try.prog ops Q (o :: rest) a w := by
  refine wpList_plain hg fun K' hK' => ?_
  unfold Oper.wp
  simp [execOp, hop, hm, hx, h.look hp hq, Result.andThen]
  exact hK' _ _ hK
/-- 'm[place] = val'. -/
theorem Bals.store {w : World} {b : Nat} {L : List B3} (h : Bals w (.map (some b)) L) (hl : L.length < maxLen) {u : B3} (h1 : wfI u.1) (h2 : wfI u.2.1) (h3 : wfI u.2.2) (hno : foundQ L u.2.1 u.1 = false) :
    ∃ w', (Instr.mapUpdate 92 (.map (some b)) (.agg #[.int .i64 u.2.1, .int .i64 u.1]) (.int .i64 u.2.2)).run Try.prog w = .ok () w' ∧ Bals w' (.map (some b)) (L ++ [u]) ∧ w.grownBy w' (some b) := by
  rcases h with ⟨h, _⟩ | ⟨b', D, e, g1, g2⟩
  · cases h
  · injection e with e; injection e with e; subst e
    obtain ⟨w', hrun, ho, hg⟩ := g1.update placeLaw Try.underlying92 hl (pk_key h2 h1) (plainElem_int Try.underlying3 h3)
    exact ⟨w', hrun, .inr ⟨b, _, rfl, by rw [List.length_append]; exact ho, holds_put g2 h1 h2 hno⟩, hg⟩
theorem step_store_bals {ops : Array Oper} {w : World} {o : Oper} {a : Act} {K : Act → World → Prop} {Q : Exit → Act → World → Prop} {E : Prop}
    (hg : o.guard = none) (m x y : Operand) (hop : o.op = Op.mapUpdate 92 m x y) (b : Nat) (L : List B3) (u : B3) (hm : a.eval m = .map (some b)) (hx : a.eval x = .agg #[.int .i64 u.2.1, .int .i64 u.1]) (hy : a.eval y = .int .i64 u.2.2)
    (h : Bals w (.map (some b)) L) (hl : L.length < maxLen) (h1 : wfI u.1) (h2 : wfI u.2.1) (h3 : wfI u.2.2) (hno : foundQ L u.2.1 u.1 = false)
    (hK : ∀ w', Bals w' (.map (some b)) (L ++ [u]) → w.grownBy w' (some b) → K (a.put o.dst undef) w') :
    if Region.wanted o (yielded ops a.tmps) = true then Oper.wp Try.prog o a w K Q else E := by
  have hw : Region.wanted o (yielded ops a.tmps) = true := by simp [Region.wanted, hg]
  rw [if_pos hw]
  obtain ⟨w', hrun, r1, r2⟩ := h.store hl h1 h2 h3 hno
  unfold Oper.wp
  simp [execOp, hop, hm, hx, hy, hrun, Result.andThen]
  exact hK _ r1 r2
end Go.Proofs.Ytfebeafonifpdaa.V
