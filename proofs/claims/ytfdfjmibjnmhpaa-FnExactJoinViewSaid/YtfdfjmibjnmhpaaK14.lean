/-
  Rows in blocks of their own, whose elements have parts in blocks of their own, no two in one block. Generic; no statement is proved here. Copies of votes, reports and of what was heard, in blocks of their own: contracts. What was heard, copied by the program into blocks of its own: a contract. The map from places to values that the program makes of a tally: what it holds, and its laws. placeOf, ballotsOf and add of the program: contracts. A region that draws its order and only adds memory, each operation walked once; what an operation yields may be told of what those before it have yielded. No statement is proved here.
-/
import Derived.Test.YtfdfjmibjnmhpaaK13
import Derived.Test.YtfdfjmibjnmhpaaK11
import Derived.BigRegion
import Derived.Test.YtfdfjmibjnmhpaaK07
import Derived.Maps.RangeWalk
import Derived.Maps.Ext
import Derived.WideKeyPair
import Derived.DeepKeys4
import Derived.Test.YtfdfjmibjnmhpaaK08
import Derived.Test.YtfdfjmibjnmhpaaK12
set_option linter.unusedVariables false
set_option maxRecDepth 100000
namespace Go.Proofs.Ytfdfjmibjnmhpaa.B
open Go.RowKit

/-- The block of a slice value. -/
def vB (v : Value) : List Nat := v.ownBlock.toList
theorem vB_mem {v : Value} {g : Nat} : g ∈ vB v ↔ v.ownBlock = some g := by simp [vB]
theorem row_keep {w w' : World} {base e size n : Nat} {v : Value} {xs : List Value} (h : w.ownsRow base e size v n xs) (hk : ∀ g ∈ vB v, w'.heap[g]? = w.heap[g]?) : w'.ownsRow base e size v n xs := by
  obtain ⟨h1, h2⟩ := h
  refine ⟨h1, ?_⟩
  rcases h2 with h2 | ⟨g, cap, cur, rfl, hg, hb, r⟩
  · exact .inl h2
  · exact .inr ⟨g, cap, cur, rfl, hg, (hk g (vB_mem.2 rfl)).trans hb, r⟩
theorem row_low {w : World} {b b' e size n : Nat} {v : Value} {xs : List Value} (h : w.ownsRow b e size v n xs) (hb : b' ≤ b) : w.ownsRow b' e size v n xs := by
  obtain ⟨h1, h2⟩ := h
  refine ⟨h1, ?_⟩
  rcases h2 with h2 | ⟨g, cap, cur, rfl, hg, r⟩
  · exact .inl h2
  · exact .inr ⟨g, cap, cur, rfl, by omega, r⟩
/-- A kind of element. -/
structure Els (α : Type) where
  t : TypeId
  s : Nat
  cells : α → List Value
  fp : α → List Nat
  own : World → Nat → α → Prop
  len : ∀ a, (cells a).length = s
  keep : ∀ {w w' : World} {base : Nat} {a : α}, own w base a → (∀ g ∈ fp a, w'.heap[g]? = w.heap[g]?) → own w' base a
  lt : ∀ {w : World} {base : Nat} {a : α}, own w base a → ∀ g ∈ fp a, base ≤ g ∧ g < w.heap.size
  low : ∀ {w : World} {base b' : Nat} {a : α}, own w base a → b' ≤ base → own w b' a
  nd : ∀ {w : World} {base : Nat} {a : α}, own w base a → (fp a).Nodup
section
variable {α : Type} {E : Els α} {w w' w1 w2 : World} {base b' : Nat} {v v2 : Value} {xs : List α} {x : α}
def fpX (E : Els α) (v : Value) (xs : List α) : List Nat := vB v ++ xs.flatMap E.fp
def cellsX (E : Els α) (xs : List α) : List Value := xs.flatMap E.cells
theorem cellsX_len (E : Els α) (xs : List α) : (cellsX E xs).length = xs.length * E.s := by
  induction xs with
  | nil => simp [cellsX]
  | cons x xs ih =>
    simp only [cellsX, List.flatMap_cons, List.length_append, List.length_cons] at ih ⊢
    rw [ih, E.len, Nat.add_mul]; omega
theorem cellsX_snoc (E : Els α) (xs : List α) (x : α) : cellsX E (xs ++ [x]) = cellsX E xs ++ E.cells x := by simp [cellsX]
theorem cellsX_at (E : Els α) (z : α) : ∀ (xs : List α) (i j : Nat), i < xs.length → j < E.s → (cellsX E xs)[i * E.s + j]? = (E.cells (xs.getD i z))[j]?
  | [], i, j, h, _ => absurd h (by simp)
  | x :: xs, 0, j, _, hj => by
    simp only [cellsX, List.flatMap_cons]
    rw [List.getElem?_append_left (by rw [E.len]; omega)]
    simp
  | x :: xs, i + 1, j, h, hj => by
    simp only [cellsX, List.flatMap_cons]
    have e : (i + 1) * E.s + j = E.s + (i * E.s + j) := by rw [Nat.add_mul]; omega
    rw [List.getElem?_append_right (by rw [E.len, e]; omega), E.len, show (i + 1) * E.s + j - E.s = i * E.s + j by rw [e]; omega]
    have ih := cellsX_at E z xs i j (by simpa using h) hj
    simp only [cellsX] at ih
    rw [ih]
    simp
/-- The elements xs in a row of their own. -/
structure OwnS (E : Els α) (w : World) (base : Nat) (v : Value) (xs : List α) : Prop where
  row : w.ownsRow base E.t E.s v xs.length (cellsX E xs)
  each : ∀ x ∈ xs, E.own w base x
  nd : (fpX E v xs).Nodup
theorem OwnS.keep (h : OwnS E w base v xs) (hk : ∀ g ∈ fpX E v xs, w'.heap[g]? = w.heap[g]?) : OwnS E w' base v xs :=
  ⟨row_keep h.row fun g hg => hk g (List.mem_append.2 (.inl hg)), fun x hx => E.keep (h.each x hx) fun g hg => hk g (List.mem_append.2 (.inr (List.mem_flatMap.2 ⟨x, hx, hg⟩))), h.nd⟩
theorem OwnS.lt (h : OwnS E w base v xs) : ∀ g ∈ fpX E v xs, base ≤ g ∧ g < w.heap.size := fun g hg => by
  rcases List.mem_append.1 hg with hg | hg
  · exact h.row.lt g (vB_mem.1 hg)
  · obtain ⟨x, hx, hg⟩ := List.mem_flatMap.1 hg
    exact E.lt (h.each x hx) g hg
theorem OwnS.low (h : OwnS E w base v xs) (hb : b' ≤ base) : OwnS E w b' v xs := ⟨row_low h.row hb, fun x hx => E.low (h.each x hx) hb, h.nd⟩
theorem OwnS.on (h : OwnS E w base v xs) (hb : Below w.heap.size w w') : OwnS E w' base v xs := h.keep fun g hg => hb.block g (h.lt g hg).2
theorem OwnS.up (h : OwnS E w base v xs) (O : Obj) : OwnS E (w.alloc O) base v xs := h.on ((Below.refl _ _).alloc (Nat.le_refl _) O)
theorem OwnS.kept (h : OwnS E w base v xs) {row : Option Nat} (hg : w.grownBy w' row) (hr : ∀ g, row = some g → g ∉ fpX E v xs) : OwnS E w' base v xs :=
  h.keep fun g hm => hg.block g (h.lt g hm).2 fun e => hr g e.symm hm
theorem OwnS.nil_ (E : Els α) (w : World) (base : Nat) : OwnS E w base (.slice none 0 0) [] := ⟨World.ownsRow_nil _ _ _ _, fun x hx => absurd hx (by simp), by simp [fpX, vB, Value.ownBlock]⟩
theorem OwnS.set_ (h : OwnS E w base v xs) {p : Addr} (hp : p.block ∉ fpX E v xs) (u : Value) : OwnS E (w.setCell p u) base v xs :=
  h.keep fun g hg => Below.heap_setCell w p u g fun e => hp (e ▸ hg)
/-- One more: its parts are new, then the row grows. -/
theorem OwnS.push (h : OwnS E w base v xs) (hb : Below w.heap.size w w1) (hbs : base ≤ w.heap.size) (hx : E.own w1 w.heap.size x) (hrow : w2.ownsRow base E.t E.s v2 (xs.length + 1) (cellsX E xs ++ E.cells x))
    (hgr : w1.grownBy w2 v.ownBlock) (hat : v2.ownBlock = v.ownBlock ∨ v2.ownBlock = some w1.heap.size) : OwnS E w2 base v2 (xs ++ [x]) := by
  have hlt := h.lt
  have hxl := E.lt hx
  have hnd := h.nd
  unfold fpX at hnd hlt
  rw [List.nodup_append] at hnd
  obtain ⟨n1, n2, n3⟩ := hnd
  have hs1 := hb.size
  have hself : ∀ g, v.ownBlock = some g → g < w.heap.size := fun g e => (hlt g (List.mem_append.2 (.inl (vB_mem.2 e)))).2
  refine ⟨?_, fun y hy => ?_, ?_⟩
  · rw [List.length_append, List.length_singleton, cellsX_snoc]; exact hrow
  · rcases List.mem_append.1 hy with hy | hy
    · refine E.keep (h.each y hy) fun g hg => ?_
      have hgm : g ∈ xs.flatMap E.fp := List.mem_flatMap.2 ⟨y, hy, hg⟩
      have hgl := (hlt g (List.mem_append.2 (.inr hgm))).2
      rw [hgr.block g (by omega) (fun e => n3 g (vB_mem.2 e.symm) g hgm rfl)]
      exact hb.block g hgl
    · rw [List.mem_singleton] at hy; subst hy
      refine E.low (E.keep hx fun g hg => ?_) hbs
      have := hxl g hg
      exact hgr.block g this.2 fun e => by have := hself g e.symm; omega
  · unfold fpX
    rw [List.flatMap_append, List.flatMap_singleton, List.nodup_append]
    refine ⟨by unfold vB; cases v2.ownBlock <;> simp, List.nodup_append.2 ⟨n2, E.nd hx, fun a ha b hb' e => ?_⟩, fun a ha b hb' e => ?_⟩
    · have h1 := (hlt a (List.mem_append.2 (.inr ha))).2
      have h2 := (hxl b hb').1
      omega
    · subst e
      have ha := vB_mem.1 ha
      rcases List.mem_append.1 hb' with hm | hm
      · rcases hat with e | e
        · exact n3 a (vB_mem.2 (e ▸ ha)) a hm rfl
        · rw [e] at ha; injection ha with ha
          have := (hlt a (List.mem_append.2 (.inr hm))).2
          omega
      · have h2 := hxl a hm
        rcases hat with e | e
        · have := hself a (e ▸ ha); omega
        · rw [e] at ha; injection ha with ha; omega
/-- Where it lies. -/
theorem OwnS.cell (h : OwnS E w base v xs) (z : α) (hn : 0 < xs.length) : ∃ g c, v = .slice (some ⟨g, 0, none⟩) xs.length c ∧ base ≤ g ∧ g < w.heap.size ∧ ∀ i, i < xs.length → ∀ j, j < E.s → w.cell? ⟨g, i * E.s + j, none⟩ = (E.cells (xs.getD i z))[j]? := by
  obtain ⟨hl, hr⟩ := h.row
  rcases hr with ⟨_, h2⟩ | ⟨g, cap, cur, h1, h2, h3, h4, h5, h6, h7⟩
  · omega
  · refine ⟨g, cap, h1, h2, Blk.lt h3, fun i hi j hj => ?_⟩
    have hv := cellsX_at E z xs i j hi hj
    have hij : i * E.s + j < xs.length * E.s := by
      have : (i + 1) * E.s ≤ xs.length * E.s := Nat.mul_le_mul_right _ hi
      rw [Nat.add_mul] at this; omega
    rw [← h7, List.getElem?_take_of_lt hij] at hv
    rw [Blk.cell h3]
    simpa using hv
theorem OwnS.form (h : OwnS E w base v xs) : ∃ A c, v = .slice A xs.length c ∧ xs.length ≤ c := by
  obtain ⟨_, ⟨h1, h2⟩ | ⟨g, cap, cur, h1, _, _, h4, _⟩⟩ := h.row
  · exact ⟨_, _, by rw [h2]; exact h1, by omega⟩
  · exact ⟨_, _, h1, h4⟩
end
/-- Elements that have no parts. -/
def elsFlat {α : Type} (t : TypeId) (s : Nat) (cells : α → List Value) (hl : ∀ a, (cells a).length = s) : Els α :=
  ⟨t, s, cells, fun _ => [], fun _ _ _ => True, hl, fun h _ => h, fun _ g hg => absurd hg (by simp), fun h _ => h, fun _ => by simp⟩
theorem ownS_flat {α : Type} {t : TypeId} {s : Nat} {cells : α → List Value} {hl : ∀ a, (cells a).length = s} {w : World} {base : Nat} {v : Value} {xs : List α} (h : w.ownsRow base t s v xs.length (xs.flatMap cells)) : OwnS (elsFlat t s cells hl) w base v xs :=
  ⟨h, fun _ _ => trivial, by
    unfold fpX vB
    have e : xs.flatMap (elsFlat t s cells hl).fp = [] := by simp [elsFlat]
    rw [e, List.append_nil]
    cases v.ownBlock <;> simp⟩
/-- Elements one part of which is a row. -/
def elsRow {α β : Type} (E : Els β) (t : TypeId) (s : Nat) (cells : α → List Value) (sl : α → Value) (sub : α → List β) (hl : ∀ a, (cells a).length = s) : Els α :=
  ⟨t, s, cells, fun a => fpX E (sl a) (sub a), fun w base a => OwnS E w base (sl a) (sub a), hl, fun h hk => h.keep hk, fun h => h.lt, fun h hb => h.low hb, fun h => h.nd⟩
def eV : Els (Int × Int) := elsFlat 34 2 (fun p => [.int .i64 p.1, .int .i64 p.2]) (fun _ => rfl)
def eB : Els (Int × Int × Int) := elsFlat 119 3 (fun u => [.int .i64 u.1, .int .i64 u.2.1, .int .i64 u.2.2]) (fun _ => rfl)
def eP : Els Pp := elsRow eV 89 4 (fun p => [.int .i64 p.r.f, .int .i64 p.r.v, .int .i64 p.r.x, .slice p.A p.r.vs.length p.c]) (fun p => .slice p.A p.r.vs.length p.c) (fun p => p.r.vs) (fun _ => rfl)
def eH : Els Hp := elsRow eP 122 2 (fun h => [.int .i64 h.v, .slice h.A h.ps.length h.c]) (fun h => .slice h.A h.ps.length h.c) (fun h => h.ps) (fun _ => rfl)
def eM : Els Mp := elsRow eV 45 6 (fun m => [.int .i64 m.k, .int .i64 m.v, .int .i64 m.x, .int .i64 m.a, .int .i64 m.b, .slice m.A m.vs.length m.c]) (fun m => .slice m.A m.vs.length m.c) (fun m => m.vs) (fun _ => rfl)
section
variable {w : World} {base c : Nat} {A : Option Addr}
theorem OwnS.rdV {us : List (Int × Int)} (h : OwnS eV w base (.slice A us.length c) us) : Rd w w.heap.size A us := fun hn => by
  obtain ⟨g, c', e, _, hg, hc⟩ := h.cell (0, 0) hn
  injection e with e
  exact ⟨g, 0, e, hg, fun i hi => ⟨by have := hc i hi 0 (by decide); simpa [eV, elsFlat] using this, by have := hc i hi 1 (by decide); simpa [eV, elsFlat] using this⟩⟩
theorem OwnS.rdR {ps : List Pp} (h : OwnS eP w base (.slice A ps.length c) ps) : RdR w w.heap.size A ps := fun hn => by
  obtain ⟨g, c', e, _, hg, hc⟩ := h.cell zP hn
  injection e with e
  refine ⟨g, 0, e, hg, fun i hi => ⟨⟨?_, ?_, ?_, ?_⟩, ?_⟩⟩
  · have := hc i hi 0 (by decide); simpa [eP, elsRow] using this
  · have := hc i hi 1 (by decide); simpa [eP, elsRow] using this
  · have := hc i hi 2 (by decide); simpa [eP, elsRow] using this
  · have := hc i hi 3 (by decide); simpa [eP, elsRow] using this
  · have hm : ps.getD i zP ∈ ps := by
      rw [List.getD_eq_getElem?_getD, List.getElem?_eq_getElem hi]; exact List.getElem_mem hi
    exact (h.each _ hm : OwnS eV w base (.slice (ps.getD i zP).A (ps.getD i zP).r.vs.length (ps.getD i zP).c) (ps.getD i zP).r.vs).rdV
theorem OwnS.rdH {hs : List Hp} (h : OwnS eH w base (.slice A hs.length c) hs) : RdH w w.heap.size A hs := fun hn => by
  obtain ⟨g, c', e, _, hg, hc⟩ := h.cell zH hn
  injection e with e
  refine ⟨g, 0, e, hg, fun i hi => ⟨⟨?_, ?_⟩, ?_⟩⟩
  · have := hc i hi 0 (by decide); simpa [eH, elsRow] using this
  · have := hc i hi 1 (by decide); simpa [eH, elsRow] using this
  · have hm : hs.getD i zH ∈ hs := by
      rw [List.getD_eq_getElem?_getD, List.getElem?_eq_getElem hi]; exact List.getElem_mem hi
    exact (h.each _ hm : OwnS eP w base (.slice (hs.getD i zH).A (hs.getD i zH).ps.length (hs.getD i zH).c) (hs.getD i zH).ps).rdR
theorem OwnS.rdM {ms : List Mp} (h : OwnS eM w base (.slice A ms.length c) ms) : RdK KM w w.heap.size A ms := fun hn => by
  obtain ⟨g, c', e, _, hg, hc⟩ := h.cell zM hn
  injection e with e
  refine ⟨g, 0, e, hg, fun i hi => ⟨fun j hj => ?_, ?_⟩⟩
  · have := hc i hi j hj
    rw [Nat.zero_add]
    simpa [eM, elsRow, KM, Mp.cells] using this
  · have hm : ms.getD i zM ∈ ms := by
      rw [List.getD_eq_getElem?_getD, List.getElem?_eq_getElem hi]; exact List.getElem_mem hi
    exact (h.each _ hm : OwnS eV w base (.slice (ms.getD i zM).A (ms.getD i zM).vs.length (ms.getD i zM).c) (ms.getD i zM).vs).rdV
end
end Go.Proofs.Ytfdfjmibjnmhpaa.B

namespace Go.Proofs.Ytfdfjmibjnmhpaa.V
open Go.RowKit Go.Proofs.Ytfdfjmibjnmhpaa.B
theorem formA {w : World} {base e size n : Nat} {v : Value} {xs : List Value} (h : w.ownsRow base e size v n xs) : ∃ A c, v = .slice A n c ∧ n ≤ c := by
  obtain ⟨_, ⟨rfl, rfl⟩ | ⟨g, cap, cur, rfl, _, _, h4, _⟩⟩ := h
  · exact ⟨_, _, rfl, Nat.le_refl _⟩
  · exact ⟨_, _, rfl, h4⟩
theorem ne_lowN {w : World} {b e s n g : Nat} {v : Value} {xs : List Value} (h : w.ownsRow b e s v n xs) (hg : g < b) : v.ownBlock ≠ some g := fun e => by have := (h.lt _ e).1; omega
theorem sz_a (W : World) (O : Obj) : W.heap.size ≤ (W.alloc O).heap.size := by simp
theorem blk_new1 (W : World) (L : Obj) (t : TypeId) (cs : Array Value) : Blk ((W.alloc L).alloc (.cells cs t)) (W.heap.size + 1) t cs := by
  have h := Blk.new (W.alloc L) t cs
  simpa using h
theorem infoVv : (Try.prog.info? 34).map (fun i => (i.zero, i.size, i.bytes)) = some (some (.agg #[.int .i64 0, .int .i64 0]), 2, 16) := by kernel_rfl
theorem own_farN {w : World} {b e size n o i : Nat} {v u : Value} {xs : List Value} (h : w.ownsRow b e size v n xs) (hne : v.ownBlock ≠ some o) : (w.setCell ⟨o, i, none⟩ u).ownsRow b e size v n xs :=
  h.kept (only_setI (World.grownBy.refl w (some o)) i u) (.inr hne)
set_option maxHeartbeats 800000 in
theorem copied_any (f v x : Int) (A : Option Addr) (c : Nat) (vs : List (Int × Int)) (w : World) (hr : Rd w w.heap.size A vs) (hn : vs.length ≤ 1048576) :
    Calls Try.prog 121 #[.agg #[.int .i64 f, .int .i64 v, .int .i64 x, .slice A vs.length c]] w fun e w' => ∃ A2 c2, e = .returned (.agg #[.int .i64 f, .int .i64 v, .int .i64 x, .slice A2 vs.length c2]) ∧ w'.ownsRow w.heap.size 34 2 (.slice A2 vs.length c2) vs.length (vcells vs) ∧ Below w.heap.size w w' := by
  obtain ⟨iV, hiV, hzV0, hzV1, hzV2⟩ := info_parts infoVv
  have HRV := Lib.hid (((hr.reads).alloc (Nat.le_refl _) (.cells #[.int .i64 f, .int .i64 v, .int .i64 x, .slice A vs.length c] 89)).alloc (sz_a _ _) (.cells #[.int .i64 0, .int .i64 0, .int .i64 0, .slice none 0 0] 89))
  have HON := Lib.hid (vcells_one vs)
  have kb2 := (Blk.new w 89 #[.int .i64 f, .int .i64 v, .int .i64 x, .slice A vs.length c]).alloc (.cells #[.int .i64 0, .int .i64 0, .int .i64 0, .slice none 0 0] 89)
  have kz2 := blk_new1 w (.cells #[.int .i64 f, .int .i64 v, .int .i64 x, .slice A vs.length c] 89) 89 #[.int .i64 0, .int .i64 0, .int .i64 0, .slice none 0 0]
  have hB2 : Below w.heap.size w ((w.alloc (.cells #[.int .i64 f, .int .i64 v, .int .i64 x, .slice A vs.length c] 89)).alloc (.cells #[.int .i64 0, .int .i64 0, .int .i64 0, .slice none 0 0] 89)) := up_ (up_ (Below.refl _ _) _) _
  clear hr
  go_enter Try.func121, Try.ntmps121
  go_wp2_with (at_builtin; go_loud (refine wpList_append_any _ rfl (.const (.slice none 0 0)) (.tmp 4) 33 rfl (w.heap.size + 1 + 1) 34 iV _ 2 16 Try.underlying33 hiV hzV0 hzV1 hzV2 rfl (by omega) (.slice none 0 0) 0 [] rfl (World.ownsRow_nil _ _ _ _) w.heap.size A vs.length c (vcells vs) rfl HRV.out HON.out (by simp only [maxLen]; omega) (by omega) (by simp) ?_); intro v3 w3 hown3 hgr3 hat3; simp only [Nat.zero_add, List.nil_append] at hown3; obtain ⟨A3, c3, rfl, hcap3⟩ := formA hown3; have kb3 := keepK kb2 hgr3 (by simp [Value.ownBlock]); have rb3 := kb3.rule; have fb3 := (fun i => kb3.frozen i); have kb4 : Blk (w3.setCell ⟨w.heap.size, 3, none⟩ (.slice A3 vs.length c3)) w.heap.size 89 #[.int .i64 f, .int .i64 v, .int .i64 x, .slice A3 vs.length c3] := kb3.set_ 3 _; have rb4 := kb4.rule; have kz3 := keepK kz2 hgr3 (by simp [Value.ownBlock]); have kz4 : Blk (w3.setCell ⟨w.heap.size, 3, none⟩ (.slice A3 vs.length c3)) (w.heap.size + 1) 89 #[.int .i64 0, .int .i64 0, .int .i64 0, .slice none 0 0] := kz3.far (by show w.heap.size + 1 ≠ w.heap.size; omega) _; have rz4 := kz4.rule; have fz4 := (fun i => kz4.frozen i); have kz8 := (((kz4.set_ 0 (.int .i64 f)).set_ 1 (.int .i64 v)).set_ 2 (.int .i64 x)).set_ 3 (.slice A3 vs.length c3); have rz8 := kz8.rule)
  have hB3 : Below w.heap.size w w3 := hB2.grown hgr3 (by simp; omega) (fun j hj => by simp [Value.ownBlock] at hj)
  refine bodyPost_ret (v := .agg #[.int .i64 f, .int .i64 v, .int .i64 x, .slice A3 vs.length c3]) (by simp [results, Try.results121, go_sem, rz8]) rfl ⟨A3, c3, rfl, ?_, ?_⟩
  · have hne1 : (Value.slice A3 vs.length c3).ownBlock ≠ some (w.heap.size + 1) := ne_lowN hown3 (by omega)
    have hne0 : (Value.slice A3 vs.length c3).ownBlock ≠ some w.heap.size := ne_lowN hown3 (by omega)
    exact own_more3 (own_farN (own_farN (own_farN (own_farN (own_farN hown3 hne0) hne1) hne1) hne1) hne1) (by omega)
  · exact ((((hB3.setCell (by simp) _).setCell (by simp) _).setCell (by simp) _).setCell (by simp) _).setCell (by simp) _
theorem copied_own (f v x : Int) (A : Option Addr) (c : Nat) (vs : List (Int × Int)) (w : World) (hr : Rd w w.heap.size A vs) (hn : vs.length ≤ 1048576) :
    Calls Try.prog 121 #[.agg #[.int .i64 f, .int .i64 v, .int .i64 x, .slice A vs.length c]] w fun e w' => ∃ A2 c2, e = .returned (.agg #[.int .i64 f, .int .i64 v, .int .i64 x, .slice A2 vs.length c2]) ∧ OwnS eV w' w.heap.size (.slice A2 vs.length c2) vs ∧ Below w.heap.size w w' := by
  refine (copied_any f v x A c vs w hr hn).mono ?_
  rintro e w' ⟨A2, c2, rfl, h1, h2⟩
  exact ⟨A2, c2, rfl, ownS_flat h1, h2⟩
end Go.Proofs.Ytfdfjmibjnmhpaa.V

namespace Go.Proofs.Ytfdfjmibjnmhpaa.V
open Go.RowKit Go.Proofs.Ytfdfjmibjnmhpaa.B
theorem infoR9 : (Try.prog.info? 89).map (fun i => (i.zero, i.size, i.bytes)) = some (some (.agg #[.int .i64 0, .int .i64 0, .int .i64 0, .slice none 0 0]), 4, 48) := by kernel_rfl
theorem infoH9 : (Try.prog.info? 122).map (fun i => (i.zero, i.size, i.bytes)) = some (some (.agg #[.int .i64 0, .slice none 0 0]), 2, 32) := by kernel_rfl
theorem readsR4 (u : World) (a0 a1 a2 : Int) (v3 : Value) (h3 : v3.oneCell' = true) (g : Nat) (hg : u.heap.size = g) : Reads (u.alloc (.cells #[.int .i64 a0, .int .i64 a1, .int .i64 a2, v3] 89)) (g + 1) 4 (some ⟨g, 0, none⟩) 1 [.int .i64 a0, .int .i64 a1, .int .i64 a2, v3] := by
  subst hg
  exact ⟨rfl, fun _ => ⟨_, rfl, by simp, World.news_of_block (cs := #[.int .i64 a0, .int .i64 a1, .int .i64 a2, v3]) (heap_alloc_new u _)⟩⟩
theorem readsH2 (u : World) (a0 : Int) (v3 : Value) (h3 : v3.oneCell' = true) (g : Nat) (hg : u.heap.size = g) : Reads (u.alloc (.cells #[.int .i64 a0, v3] 122)) (g + 1) 2 (some ⟨g, 0, none⟩) 1 [.int .i64 a0, v3] := by
  subst hg
  exact ⟨rfl, fun _ => ⟨_, rfl, by simp, World.news_of_block (cs := #[.int .i64 a0, v3]) (heap_alloc_new u _)⟩⟩
set_option maxHeartbeats 3200000 in
theorem copiedHeard_any (A : Option Addr) (c : Nat) (hs : List Hp) (w : World) (hr : RdH w w.heap.size A hs) (hf : FewH hs) :
    Calls Try.prog 98 #[.slice A hs.length c] w fun e w' => ∃ B d qs, e = .returned (.slice B qs.length d) ∧ hl qs = hl hs ∧ OwnS eH w' w.heap.size (.slice B qs.length d) qs ∧ Below w.heap.size w w' := by
  obtain ⟨i0, hi0, hz0, hz1, hz2⟩ := info_parts infoR9
  obtain ⟨i1, hi1, hy0, hy1, hy2⟩ := info_parts infoH9
  obtain ⟨hn, hv⟩ := hf
  obtain ⟨n, hvn⟩ : ∃ n, hs.length = n := ⟨_, rfl⟩
  rw [hvn] at hn hv ⊢
  have HVL := Lib.hid hv; clear hv
  have HV := Lib.hid hvn; clear hvn
  go_enter Try.func98, Try.ntmps98
  go_wp2
  go_loopw [3, 11] (fun out i wr => ∃ (k : Nat) (qs : List Hp), k ≤ n ∧ i = .int .i64 k ∧ Hid (qs.length = k) ∧ Hid (hl qs = (hl hs).take k) ∧ Hid (OwnS eH wr w.heap.size out qs) ∧ Below w.heap.size w wr) (fun _ i _ => n - (intOf i).toNat)
  case atStart => exact ⟨0, [], Nat.zero_le _, rfl, rfl, rfl, OwnS.nil_ _ _ _, Below.refl _ _⟩
  case round =>
    obtain ⟨k, qs, hk, rfl, hql, hqd, hown, hbel⟩ := hrel
    by_cases hlt : k < n
    · obtain ⟨b_, off, rfl, hb, hc0, hc1, hrr⟩ := RdH.at_ (hr.below hbel) (k := k) (by rw [HV.out]; exact hlt)
      have RH := Lib.hid hr; clear hr
      have hfw := HVL.out k hlt
      have htk : (hl hs).take (k + 1) = (hl hs).take k ++ [hd1 (hs.getD k zH)] := by
        rw [take_getD (hl hs) (0, []) k (by rw [hl_len, HV.out]; exact hlt), hl_at]
      have HTK := Lib.hid htk; clear htk
      obtain ⟨⟨hv, ps, hA, hc⟩, hu⟩ : ∃ u, hs.getD k zH = u := ⟨_, rfl⟩
      rw [hu] at hc0 hc1 hrr hfw HTK
      simp only at hc0 hc1 hrr hfw HTK
      obtain ⟨hn2, hfv⟩ := hfw
      clear hu
      obtain ⟨m, hpm⟩ : ∃ m, ps.length = m := ⟨_, rfl⟩
      rw [hpm] at hc1 hn2 hfv
      have HP := Lib.hid hpm; clear hpm
      have HFV := Lib.hid hfv; clear hfv
      have HOW := Lib.hid (hown.out.up (.cells #[.int .i64 hv, .slice hA m hc] 122))
      have hB1 := hbel.alloc hbel.size (.cells #[.int .i64 hv, .slice hA m hc] 122)
      have kb := Blk.new wr 122 #[.int .i64 hv, .slice hA m hc]
      have HRR := Lib.hid ((hrr.more hbel.size).up (.cells #[.int .i64 hv, .slice hA m hc] 122))
      have hsz1 : (wr.alloc (.cells #[.int .i64 hv, .slice hA m hc] 122)).heap.size = wr.heap.size + 1 := World.size_alloc _ _
      have rb := kb.rule
      have HB0 := Lib.hid hbel
      clear hown hrr
      go_wp2
      obtain ⟨W1, hW1⟩ : ∃ W1, wr.alloc (.cells #[.int .i64 hv, .slice hA m hc] 122) = W1 := ⟨_, rfl⟩
      rw [hW1] at HOW hB1 kb HRR hsz1 rb ⊢
      clear hW1
      have HB1 := Lib.hid hB1
      clear hB1
      go_loopw [6, 18] (fun rep j w2 => ∃ (l : Nat) (rs : List Pp), l ≤ m ∧ j = .int .i64 l ∧ Hid (rs.length = l) ∧ Hid (rl rs = (rl ps).take l) ∧ Hid (OwnS eP w2 W1.heap.size rep rs) ∧ Below W1.heap.size W1 w2) (fun _ j _ => m - (intOf j).toNat)
      case atStart => exact ⟨0, [], Nat.zero_le _, rfl, rfl, rfl, OwnS.nil_ _ _ _, Below.refl _ _⟩
      case round =>
        clear rb
        obtain ⟨l, rs, hl_, rfl, hrl, hrd, hrown, hb2⟩ := hrel
        have kb2 := kb.on hb2
        have rb2 := kb2.rule
        by_cases hlt2 : l < m
        · obtain ⟨b2, off2, rfl, hbb2, hd0, hd1_, hd2, hd3, hrv⟩ := RdR.at_ (HRR.out.below hb2) (k := l) (by rw [HP.out]; exact hlt2)
          have hfv := HFV.out l hlt2
          have htk2 : (rl ps).take (l + 1) = (rl ps).take l ++ [(ps.getD l zP).r] := by
            rw [take_getD (rl ps) zR l (by rw [rl_len, HP.out]; exact hlt2), rl_at]
          have HTK2 := Lib.hid htk2; clear htk2
          obtain ⟨⟨⟨rf, rv, rx, rvs⟩, rA, rc⟩, hu2⟩ : ∃ u, ps.getD l zP = u := ⟨_, rfl⟩
          rw [hu2] at hd0 hd1_ hd2 hd3 hrv hfv HTK2
          simp only at hd0 hd1_ hd2 hd3 hrv hfv HTK2
          clear hu2
          have HCL := Lib.hid (copied_own rf rv rx rA rc rvs (wr.alloc (.cells #[.int .i64 rf, .int .i64 rv, .int .i64 rx, .slice rA rvs.length rc] 89)) ((hrv.more hb2.size).up _) hfv)
          have kp := Blk.new wr 89 #[.int .i64 rf, .int .i64 rv, .int .i64 rx, .slice rA rvs.length rc]
          have rp := kp.rule
          have HRO := Lib.hid (hrown.out.up (.cells #[.int .i64 rf, .int .i64 rv, .int .i64 rx, .slice rA rvs.length rc] 89))
          have hb3 := hb2.alloc hb2.size (.cells #[.int .i64 rf, .int .i64 rv, .int .i64 rx, .slice rA rvs.length rc] 89)
          have hszp : (wr.alloc (.cells #[.int .i64 rf, .int .i64 rv, .int .i64 rx, .slice rA rvs.length rc] 89)).heap.size = wr.heap.size + 1 := World.size_alloc _ _
          clear hrv hfv hrown
          go_wp2_with fail
          refine HCL.out.mono ?_
          rintro e w3 ⟨A2, c2, rfl, hov, hb4⟩
          have hb5 := on_ hb3 hb4
          have hz3 := hb4.size
          have hz5 := hb5.size
          have hrow1 := HRO.out.row
          have HPU := Lib.hid (fun (w5 : World) (v5 : Value) (h1 : w5.ownsRow W1.heap.size 89 4 v5 (rs.length + 1) (cellsX eP rs ++ [.int .i64 rf, .int .i64 rv, .int .i64 rx, .slice A2 rvs.length c2])) (h2 : (w3.alloc (.cells #[.int .i64 rf, .int .i64 rv, .int .i64 rx, .slice A2 rvs.length c2] 89)).grownBy w5 u6.ownBlock) (h3 : v5.ownBlock = u6.ownBlock ∨ v5.ownBlock = some (w3.alloc (.cells #[.int .i64 rf, .int .i64 rv, .int .i64 rx, .slice A2 rvs.length c2] 89)).heap.size) =>
            OwnS.push (E := eP) (x := (⟨⟨rf, rv, rx, rvs⟩, A2, c2⟩ : Pp)) HRO.out (hb4.alloc hz3 (.cells #[.int .i64 rf, .int .i64 rv, .int .i64 rx, .slice A2 rvs.length c2] 89)) (by rw [hszp]; have := hb2.size; omega) (hov.up (.cells #[.int .i64 rf, .int .i64 rv, .int .i64 rx, .slice A2 rvs.length c2] 89)) h1 h2 h3)
          have hro2 := (own_onB hrow1 hb4).alloc (.cells #[.int .i64 rf, .int .i64 rv, .int .i64 rx, .slice A2 rvs.length c2] 89)
          have hb6 := hb5.alloc hz5 (.cells #[.int .i64 rf, .int .i64 rv, .int .i64 rx, .slice A2 rvs.length c2] 89)
          have HLT := Lib.hid (fun j (hj : u6.ownBlock = some j) => (HRO.out.lt j (List.mem_append.2 (.inl (vB_mem.2 hj)))).1)
          rw [hrl.out] at hro2 HPU
          have HR2 := Lib.hid hro2
          clear hro2 hrow1 HRO HCL hov hb3 hb4 kp rp rb2 hb5
          go_wp2_with (at_builtin; refine wpList_append_any _ rfl (.tmp 22) (.tmp 25) 86 rfl W1.heap.size 89 i0 _ 4 48 Try.underlying86 hi0 hz0 hz1 hz2 rfl (by omega) u6 l _ rfl HR2.out _ _ 1 1 [.int .i64 rf, .int .i64 rv, .int .i64 rx, .slice A2 rvs.length c2] rfl (readsR4 w3 rf rv rx (.slice A2 rvs.length c2) rfl _ rfl) (by simp [Value.oneCell']) (by simp only [maxLen]; omega) (by omega) (by have := hb6.size; omega) ?_; intro v5 w5 hown5 hgr5 hat5; have HO5 := Lib.hid (HPU.out w5 v5 hown5 hgr5 hat5); have hb7 := hb6.grown hgr5 hb6.size HLT.out; clear hown5 hgr5 hat5)
          go_roundw
          case rel => exact ⟨l + 1, rs ++ [⟨⟨rf, rv, rx, rvs⟩, A2, c2⟩], by omega, by go_num, by show _ = _; rw [List.length_append, hrl.out]; rfl, by show _ = _; rw [HTK2.out, ← hrd.out]; simp [rl], HO5, hb7⟩
          case measure => simp [intOf]; omega
        · obtain rfl : l = m := by omega
          have HRO := Lib.hid hrown.out
          obtain ⟨A5, c5, e5, _⟩ := hrown.out.form
          subst e5
          have hB2 := on_ HB1.out hb2
          have hz5 := hb2.size
          have hz0 := HB0.out.size
          have HPU := Lib.hid (fun (w5 : World) (v5 : Value) (h1 : w5.ownsRow w.heap.size 122 2 v5 (qs.length + 1) (cellsX eH qs ++ [.int .i64 hv, .slice A5 rs.length c5])) (h2 : (wr.alloc (.cells #[.int .i64 hv, .slice A5 rs.length c5] 122)).grownBy w5 u3.ownBlock) (h3 : v5.ownBlock = u3.ownBlock ∨ v5.ownBlock = some (wr.alloc (.cells #[.int .i64 hv, .slice A5 rs.length c5] 122)).heap.size) =>
            OwnS.push (E := eH) (x := (⟨hv, rs, A5, c5⟩ : Hp)) HOW.out (hb2.alloc hz5 (.cells #[.int .i64 hv, .slice A5 rs.length c5] 122)) (by rw [hsz1]; omega) (HRO.out.up (.cells #[.int .i64 hv, .slice A5 rs.length c5] 122)) h1 h2 h3)
          have HR2 := Lib.hid ((own_onB HOW.out.row hb2).alloc (.cells #[.int .i64 hv, .slice A5 rs.length c5] 122))
          have hb6 := hB2.alloc hB2.size (.cells #[.int .i64 hv, .slice A5 rs.length c5] 122)
          have HLT := Lib.hid (fun j (hj : u3.ownBlock = some j) => (HOW.out.lt j (List.mem_append.2 (.inl (vB_mem.2 hj)))).1)
          rw [hrl.out] at HPU HR2 hb6 ⊢
          rw [hql.out] at HPU HR2
          clear HOW hrown
          go_wp2_with (at_builtin; go_loud (refine wpList_append_any _ rfl (.tmp 28) (.tmp 33) 38 rfl w.heap.size 122 i1 _ 2 32 Try.underlying38 hi1 hy0 hy1 hy2 rfl (by omega) u3 k _ rfl HR2.out _ _ 1 1 [.int .i64 hv, .slice A5 l c5] rfl (readsH2 wr hv (.slice A5 l c5) rfl _ rfl) (by simp [Value.oneCell']) (by simp only [maxLen]; omega) (by omega) (by have := hb6.size; omega) ?_); intro v5 w5 hown5 hgr5 hat5; have HO5 := Lib.hid (HPU.out w5 v5 hown5 hgr5 hat5); have hb7 := hb6.grown hgr5 hb6.size HLT.out; clear hown5 hgr5 hat5)
          go_roundw
          case rel => exact ⟨k + 1, qs ++ [⟨hv, rs, A5, c5⟩], by omega, by go_num, by show _ = _; rw [List.length_append, hql.out]; rfl, by show _ = _; rw [HTK.out, ← hqd.out]; simp only [hl, List.map_append, List.map_cons, List.map_nil, hd1]; rw [hrd.out, List.take_of_length_le (by rw [rl_len, HP.out]; exact Nat.le_refl _)], HO5, hb7⟩
          case measure => simp [intOf]; omega
    · obtain rfl : k = n := by omega
      obtain ⟨B, d, e5, _⟩ := hown.out.form
      subst e5
      rw [hql.out]
      go_wp2
      go_ret
      exact ⟨B, d, qs, by show _ = _; rw [hql.out]; rfl, by rw [hqd.out, List.take_of_length_le (by rw [hl_len, HV.out]; exact Nat.le_refl _)], hown.out, hbel⟩
end Go.Proofs.Ytfdfjmibjnmhpaa.V

namespace Go.Proofs.Ytfdfjmibjnmhpaa.V
open Go.RowKit Go.Proofs.Ytfdfjmibjnmhpaa.B

abbrev wfI (n : Int) : Prop := (Lit.int .i64 n).wf = true
theorem arrP : WideMaps.ArrKey Try.prog 146 3 2 := ⟨Try.underlying146, by kernel_rfl, by kernel_rfl, by kernel_rfl⟩
theorem placeLaw : Maps.Keyed Try.prog 146 := Maps.Keyed.of_law arrP.law
theorem types_more : ∃ m, Try.prog.types.size = m + 1 := ⟨Try.prog.types.size - 1, by have : 0 < Try.prog.types.size := of_decide_eq_true (by kernel_rfl); omega⟩
def pk (p q : Int) : Lit := .string (keyBytes [.int .i64 p, .int .i64 q])
theorem pk_key {p q : Int} (hp : wfI p) (hq : wfI q) : keyOf Try.prog 146 (.agg #[.int .i64 p, .int .i64 q]) = some (pk p q) :=
  WideMaps.keyOf_pair arrP Try.underlying3 types_more hp hq
theorem pk_inj {p q p' q' : Int} (hp : wfI p) (hq : wfI q) (hp' : wfI p') (hq' : wfI q') (h : pk p q = pk p' q') : p = p' ∧ q = q' := by
  have := placeLaw.inj (pk_key hp hq) (h ▸ pk_key hp' hq')
  simpa using this
theorem pk_isKey {p q : Int} (hp : wfI p) (hq : wfI q) : WideAt.IsKeyLit (pk p q) := placeLaw.key (pk_key hp hq)
theorem cell_inv {m : Nat} {c : Value} {ls : List Lit} (h : Try.prog.keyLits (m + 1) 3 [c] = some ls) : ∃ a, c = .int .i64 a ∧ wfI a ∧ ls = [.int .i64 a] := by
  unfold Program.keyLits at h
  rw [Try.underlying3] at h
  cases c <;> simp at h
  obtain ⟨⟨rfl, hw⟩, rfl⟩ := h
  exact ⟨_, rfl, hw, rfl⟩
theorem pk_inv {key : Value} {kl : Lit} (h : keyOf Try.prog 146 key = some kl) : ∃ p q, key = .agg #[.int .i64 p, .int .i64 q] ∧ wfI p ∧ wfI q ∧ kl = pk p q := by
  have h0 := h
  unfold keyOf at h
  simp only [arrP.hu] at h
  split at h
  case isFalse => cases h
  rename_i hf
  simp only [Bool.and_eq_true] at hf
  have hf2 := hf.2
  obtain ⟨cs, rfl, hcs⟩ : ∃ cs, key = .agg cs ∧ cs.size = 2 := by
    cases key <;> simp [Value.formed, arrP.hu, arrP.size] at hf2
    exact ⟨_, rfl, hf2⟩
  obtain ⟨l⟩ := cs
  match l, hcs with
  | [c0, c1], _ =>
    obtain ⟨m, hm⟩ := types_more
    rw [hm] at h
    unfold Program.keyLits at h
    simp only [arrP.hu, Value.cells] at h
    rw [if_pos (by rw [arrP.size]; rfl), show List.range 2 = [0, 1] from rfl, List.mapM_cons, List.mapM_cons, List.mapM_nil] at h
    simp only [arrP.one, bind, Option.map_eq_some_iff, Option.bind_eq_some_iff, pure, Option.some.injEq] at h
    obtain ⟨_, ⟨_, ⟨l0, h0', _, ⟨l1, h1', _, rfl, rfl⟩, rfl⟩, rfl⟩, rfl⟩ := h
    obtain ⟨a, ea, ha, rfl⟩ := cell_inv h0'
    obtain ⟨b, eb, hb, rfl⟩ := cell_inv h1'
    subst ea eb
    exact ⟨a, b, rfl, ha, hb, rfl⟩

/-- D holds the ballots L: each at its place, and nothing else. -/
def Holds (D : DataW Unit) (L : List B3) : Prop :=
  Maps.IsMap D ∧ ∀ p q, wfI p → wfI q → Maps.has D (pk p q) = foundQ L p q ∧ (foundQ L p q = true → ∀ z, D.atKey (pk p q) z = .lit (.int .i64 (foundV L p q)))
noncomputable abbrev plI : Value → Option (DataW Unit × List MemPlace) := plainElem (H := Unit) Try.prog 3
/-- v is a nil map, and there are no ballots, or a map that holds them. -/
def Bals (w : World) (v : Value) (L : List B3) : Prop :=
  (v = .map none ∧ L = []) ∨ ∃ b D, v = .map (some b) ∧ w.ownsMap Try.prog 146 plI b L.length D ∧ Holds D L
theorem holds_nil : Holds (.map []) [] := ⟨Maps.isMap_empty, fun p q _ _ => ⟨by simp [Maps.has, foundQ], fun h => by simp [foundQ] at h⟩⟩
theorem found_app (L : List B3) (u : B3) (p q : Int) : foundQ (L ++ [u]) p q = (foundQ L p q || isOf p q u) := by
  simp [foundQ, List.find?_append, List.find?_cons]
  cases h : List.find? (isOf p q) L <;> cases h2 : isOf p q u <;> simp
theorem found_app_old {L : List B3} {u : B3} {p q : Int} (h : foundQ L p q = true) : foundV (L ++ [u]) p q = foundV L p q := by
  unfold foundQ at h
  obtain ⟨x, hx⟩ := Option.isSome_iff_exists.1 h
  simp [foundV, List.find?_append, hx]
theorem found_app_new {L : List B3} {u : B3} {p q : Int} (h : foundQ L p q = false) (h2 : isOf p q u = true) : foundV (L ++ [u]) p q = u.2.2 := by
  have h3 : List.find? (isOf p q) L = none := by simpa [foundQ] using h
  simp [foundV, List.find?_append, h3, h2]
theorem holds_put {D : DataW Unit} {L : List B3} {u : B3} (h : Holds D L) (h1 : wfI u.1) (h2 : wfI u.2.1) (hno : foundQ L u.2.1 u.1 = false) : Holds (D.put (pk u.2.1 u.1) (.lit (.int .i64 u.2.2))) (L ++ [u]) := by
  refine ⟨h.1.put _ _, fun p q hp hq => ?_⟩
  by_cases e : p = u.2.1 ∧ q = u.1
  · obtain ⟨rfl, rfl⟩ := e
    have hi : isOf u.2.1 u.1 u = true := by simp [isOf]
    refine ⟨by rw [Maps.has_put_same h.1 (pk_isKey hp hq), found_app, hi, Bool.or_true], fun _ z => ?_⟩
    rw [Maps.atKey_put_same h.1 (pk_isKey hp hq), found_app_new hno hi]
  · have hne : pk p q ≠ pk u.2.1 u.1 := fun e2 => e (pk_inj hp hq h2 h1 e2)
    have hi : isOf p q u = false := by
      simp only [isOf, decide_eq_false_iff_not]
      exact fun ⟨a, b⟩ => e ⟨a.symm, b.symm⟩
    obtain ⟨a1, a2⟩ := h.2 p q hp hq
    refine ⟨by rw [Maps.has_put_other hne, a1, found_app, hi, Bool.or_false], fun h3 z => ?_⟩
    rw [found_app, hi, Bool.or_false] at h3
    rw [Maps.atKey_put_other hne, a2 h3 z, found_app_old h3]

theorem zeroI (w : World) : (zeroValue 3).run Try.prog w = .ok (.int .i64 0) w := by kernel_rfl
section
variable {w w' : World} {v : Value} {L : List B3}
theorem Bals.kept {row : Option Nat} (h : Bals w v L) (hg : w.grownBy w' row) (hne : ∀ b, v = .map (some b) → some b ≠ row) : Bals w' v L := by
  rcases h with h | ⟨b, D, rfl, h1, h2⟩
  · exact .inl h
  · exact .inr ⟨b, D, rfl, h1.kept hg (hne b rfl), h2⟩
theorem Bals.alloc (h : Bals w v L) (o : Obj) : Bals (w.alloc o) v L := h.kept (World.grownBy_alloc w o none) (by simp)
theorem Bals.drew (h : Bals w v L) : Bals w.drew v L := h
theorem Bals.below {B : Nat} (h : Bals w v L) (hb : Below B w w') (hlt : ∀ b, v = .map (some b) → b < B) : Bals w' v L := by
  rcases h with h | ⟨b, D, rfl, ⟨es, clock, h1, h2⟩, h3⟩
  · exact .inl h
  · exact .inr ⟨b, D, rfl, ⟨es, clock, (hb.block b (hlt b rfl)).trans h1, h2⟩, h3⟩
theorem Bals.lt (h : Bals w v L) : ∀ b, v = .map (some b) → b < w.heap.size := fun b e => by
  rcases h with ⟨rfl, _⟩ | ⟨b', D, rfl, h1, _⟩
  · cases e
  · injection e with e; injection e with e; subst e; exact h1.lt
theorem Bals.on (h : Bals w v L) (hb : Below w.heap.size w w') : Bals w' v L := h.below hb h.lt
theorem Bals.form (h : Bals w v L) : ∃ o, v = .map o := by
  rcases h with ⟨rfl, _⟩ | ⟨b, D, rfl, _⟩ <;> exact ⟨_, rfl⟩
/-- 'val, ok := m[place]'. -/
theorem Bals.look (h : Bals w v L) {p q : Int} (hp : wfI p) (hq : wfI q) :
    (Instr.lookup 95 v (.agg #[.int .i64 p, .int .i64 q]) true).run Try.prog w = .ok (.tuple #[.int .i64 (foundV L p q), .bool (foundQ L p q)]) w := by
  rcases h with ⟨rfl, rfl⟩ | ⟨b, D, rfl, h1, h2⟩
  · rw [Maps.look_nil true placeLaw Try.underlying95 (zeroI w) (pk_key hp hq)]
    rfl
  · obtain ⟨x, ps, hrun, hx⟩ := h1.look_ok placeLaw Try.underlying95 (zeroI w) (plainElem_int Try.underlying3 (by decide)) (pk_key hp hq)
    obtain ⟨c, rfl, hc, hwc⟩ := plainElem_int_inv Try.underlying3 hx
    obtain ⟨a1, a2⟩ := h2.2 p q hp hq
    rw [hrun, a1]
    have hc' := congrArg Prod.fst hc
    simp only at hc'
    rcases hf : foundQ L p q with _ | _
    · rw [Maps.atKey_of_not_has (by rw [a1, hf])] at hc'
      have : c = 0 := by injection hc' with hc'; injection hc' with _ hc'; exact hc'.symm
      have h3 : foundV L p q = 0 := by
        have h3 : List.find? (isOf p q) L = none := by simpa [foundQ] using hf
        simp [foundV, h3]
      rw [this, h3]
    · rw [a2 hf] at hc'
      have : c = foundV L p q := by injection hc' with hc'; injection hc' with _ hc'; exact hc'.symm
      rw [this]
end
theorem wpList_look_bals (w : World) {ops : Array Oper} {rest : List Oper} {o : Oper} {a : Act} {Q : Exit → Act → World → Prop}
    (hg : o.guard = none) (m x : Operand) (hop : o.op = Op.lookup 95 m x true) (v : Value) (L : List B3) (hm : a.eval m = v) (h : Bals w v L) (p q : Int) (hx : a.eval x = .agg #[.int .i64 p, .int .i64 q]) (hp : wfI p) (hq : wfI q)
    (hK : wpList Try.prog ops Q rest (a.put o.dst (.tuple #[.int .i64 (foundV L p q), .bool (foundQ L p q)])) w) : wpList Try.prog ops Q (o :: rest) a w := by
  refine wpList_plain hg fun K' hK' => ?_
  unfold Oper.wp
  simp [execOp, hop, hm, hx, h.look hp hq, Result.andThen]
  exact hK' _ _ hK
/-- 'm[place] = val'. -/
theorem Bals.store {w : World} {b : Nat} {L : List B3} (h : Bals w (.map (some b)) L) (hl : L.length < maxLen) {u : B3} (h1 : wfI u.1) (h2 : wfI u.2.1) (h3 : wfI u.2.2) (hno : foundQ L u.2.1 u.1 = false) :
    ∃ w', (Instr.mapUpdate 95 (.map (some b)) (.agg #[.int .i64 u.2.1, .int .i64 u.1]) (.int .i64 u.2.2)).run Try.prog w = .ok () w' ∧ Bals w' (.map (some b)) (L ++ [u]) ∧ w.grownBy w' (some b) := by
  rcases h with ⟨h, _⟩ | ⟨b', D, e, g1, g2⟩
  · cases h
  · injection e with e; injection e with e; subst e
    obtain ⟨w', hrun, ho, hg⟩ := g1.update placeLaw Try.underlying95 hl (pk_key h2 h1) (plainElem_int Try.underlying3 h3)
    exact ⟨w', hrun, .inr ⟨b, _, rfl, by rw [List.length_append]; exact ho, holds_put g2 h1 h2 hno⟩, hg⟩
theorem step_store_bals {ops : Array Oper} {w : World} {o : Oper} {a : Act} {K : Act → World → Prop} {Q : Exit → Act → World → Prop} {E : Prop}
    (hg : o.guard = none) (m x y : Operand) (hop : o.op = Op.mapUpdate 95 m x y) (b : Nat) (L : List B3) (u : B3) (hm : a.eval m = .map (some b)) (hx : a.eval x = .agg #[.int .i64 u.2.1, .int .i64 u.1]) (hy : a.eval y = .int .i64 u.2.2)
    (h : Bals w (.map (some b)) L) (hl : L.length < maxLen) (h1 : wfI u.1) (h2 : wfI u.2.1) (h3 : wfI u.2.2) (hno : foundQ L u.2.1 u.1 = false)
    (hK : ∀ w', Bals w' (.map (some b)) (L ++ [u]) → w.grownBy w' (some b) → K (a.put o.dst undef) w') :
    if Region.wanted o (yielded ops a.tmps) = true then Oper.wp Try.prog o a w K Q else E := by
  have hw : Region.wanted o (yielded ops a.tmps) = true := by simp [Region.wanted, hg]
  rw [if_pos hw]
  obtain ⟨w', hrun, r1, r2⟩ := h.store hl h1 h2 h3 hno
  unfold Oper.wp
  simp [execOp, hop, hm, hx, hy, hrun, Result.andThen]
  exact hK _ r1 r2
end Go.Proofs.Ytfdfjmibjnmhpaa.V

namespace Go.Proofs.Ytfdfjmibjnmhpaa.V
open Go.RowKit Go.Proofs.Ytfdfjmibjnmhpaa.B

theorem placeOf_any (a b c : Int) (w : World) : Calls Try.prog 131 #[.agg #[.int .i64 a, .int .i64 b, .int .i64 c]] w fun e w' => e = .returned (.agg #[.int .i64 b, .int .i64 a]) ∧ Below w.heap.size w w' := by
  go_enter Try.func131, Try.ntmps131
  go_wp2
  refine bodyPost_ret (v := .agg #[.int .i64 b, .int .i64 a]) (by simp [results, Try.results131, go_sem]) rfl ?_
  refine ⟨rfl, ?_⟩
  repeat (first | exact Below.refl _ _ | refine Below.alloc ?_ (by simp) _ | refine Below.setCell ?_ (by simp) _)
theorem wf_of_ok {u : B3} (h : b3Ok u = true) : wfI u.1 ∧ wfI u.2.1 ∧ wfI u.2.2 := by
  simp [b3Ok, viewB, valB] at h
  refine ⟨WalkArith.wf_i64 (by omega), WalkArith.wf_i64 (by omega), WalkArith.wf_i64 (by omega)⟩
def before3 (p u : B3) : Prop := p.2.1 < u.2.1 ∨ p.2.1 = u.2.1 ∧ p.1 < u.1
theorem cmp_lt {p u : B3} : cmp3 p u < 0 ↔ before3 p u := by
  unfold cmp3 before3
  split
  · split <;> omega
  · split
    · omega
    · split <;> omega
/-- A valid tally: each ballot is valid, and all stand in their order. -/
theorem sorted_of {vs : List B3} (h : tallyOkB vs = true) : ∀ i j, i < j → j < vs.length → before3 (vs.getD i z3) (vs.getD j z3) := by
  have hg : ∀ k, k < vs.length → goodB vs k = true := fun k hk => List.all_eq_true.1 h k (List.mem_range.2 hk)
  have h1 : ∀ j, 0 < j → j < vs.length → before3 (vs.getD (j - 1) z3) (vs.getD j z3) := fun j h0 hj => by
    have := hg j hj
    unfold goodB at this
    simp only [Bool.and_eq_true, Bool.or_eq_true, decide_eq_true_eq] at this
    rcases this.2 with h2 | h2
    · omega
    · exact cmp_lt.1 h2
  intro i j
  induction j with
  | zero => intro h2; omega
  | succ j ih =>
    intro hij hj
    have h3 := h1 (j + 1) (by omega) hj
    simp only [Nat.add_sub_cancel] at h3
    by_cases e : i = j
    · subst e; exact h3
    · have h4 := ih (by omega) (by omega)
      unfold before3 at *
      omega
theorem ok_of {vs : List B3} (h : tallyOkB vs = true) (k : Nat) (hk : k < vs.length) : b3Ok (vs.getD k z3) = true := by
  have := List.all_eq_true.1 h k (List.mem_range.2 hk)
  unfold goodB at this
  simp only [Bool.and_eq_true] at this
  exact this.1
theorem fresh_of {vs : List B3} (h : tallyOkB vs = true) (k : Nat) (hk : k < vs.length) : foundQ (vs.take k) (vs.getD k z3).2.1 (vs.getD k z3).1 = false := by
  unfold foundQ
  rw [Option.isSome_eq_false_iff, Option.isNone_iff_eq_none, List.find?_eq_none]
  intro x hx
  obtain ⟨i, hi, rfl⟩ := List.mem_take_iff_getElem.1 hx
  have hs := sorted_of h i k (by omega) hk
  have e : vs.getD i z3 = vs[i] := by simp [List.getD_eq_getElem?_getD, List.getElem?_eq_getElem (show i < vs.length by omega)]
  rw [e] at hs
  unfold before3 at hs
  simp only [isOf, decide_eq_true_eq]
  omega

set_option maxHeartbeats 3200000 in
theorem ballotsOf_yes (A : Option Addr) (c : Nat) (vs : List B3) (hq : tallyOkB vs = true) (w : World) (hr : Rd3 w w.heap.size A vs) (hn : vs.length ≤ 1048576) :
    Calls Try.prog 120 #[.agg #[.slice A vs.length c]] w fun e w' => ∃ b, e = .returned (.tuple #[.map (some b), .bool true]) ∧ w.heap.size ≤ b ∧ Bals w' (.map (some b)) vs ∧ Below w.heap.size w w' := by
  have hmm := @run_makeMap Try.prog
  obtain ⟨n, hvn⟩ : ∃ n, vs.length = n := ⟨_, rfl⟩
  have hok := fun W h => implTallyOk_is true A c vs hq W h hn
  have hfr := fresh_of hq
  have hbo := fun k hk => wf_of_ok (ok_of hq k hk)
  rw [hvn] at hn hok hfr hbo ⊢
  have HOK := Lib.hid hok; clear hok
  have HFR := Lib.hid hfr; clear hfr
  have HBO := Lib.hid hbo; clear hbo hq
  have HV := Lib.hid hvn; clear hvn
  have HB := Lib.hid (tally_box w A n c)
  have hr0 := hr.up (.cells #[.slice A n c] 37)
  have hs0 : (w.alloc (.cells #[.slice A n c] 37)).heap.size = w.heap.size + 1 := by simp
  have HR : Hid (∀ wr, Below (w.heap.size + 1) (w.alloc (.cells #[.slice A n c] 37)) wr → Rd3 wr w.heap.size A vs ∧ w.heap.size + 1 ≤ wr.heap.size) := fun wr h => ⟨hr.below (HB.out wr h).2, by have := h.size; omega⟩
  clear hs0 hr
  go_enter Try.func120, Try.ntmps120
  go_wp2_with fail
  refine (HOK.out _ hr0).mono ?_
  rintro e w1 ⟨rfl, hb1⟩
  have hbl1 : Below (w.heap.size + 1) (w.alloc (.cells #[.slice A n c] 37)) w1 := by simpa using hb1
  have rb1 := (HB.out w1 hbl1).1.rule
  have hs1 : w.heap.size + 1 ≤ w1.heap.size := (HR.out w1 hbl1).2
  have hrr := fun O : Obj => (((HB.out w1 hbl1).1.alloc O).cell 0)
  clear hb1 hr0
  go_wp2
  go_loopw [14] (fun i wr => ∃ (k : Nat), k ≤ n ∧ i = .int .i64 k ∧ Bals wr (.map (some w1.heap.size)) (vs.take k) ∧ Below (w.heap.size + 1) (w.alloc (.cells #[.slice A n c] 37)) wr) (fun i _ => n - (intOf i).toNat)
  case atStart => exact ⟨0, Nat.zero_le _, rfl, .inr ⟨_, _, rfl, World.ownsMap_made _ _ _ _, holds_nil⟩, hbl1.alloc hs1 _⟩
  case round =>
    clear rb1 hrr hmm
    obtain ⟨k, hk, rfl, hbal, hbel⟩ := hrel
    obtain ⟨kb, hbw⟩ := HB.out wr hbel
    obtain ⟨hr1, hsz⟩ := HR.out wr hbel
    have rb := kb.rule
    by_cases hlt : k < n
    · obtain ⟨b, off, rfl, hb, hc0, hc1, hc2⟩ := Rd3.at_ hr1 (k := k) (by rw [HV.out]; omega)
      have hfk := HFR.out k hlt
      obtain ⟨hw1, hw2, hw3⟩ := HBO.out k hlt
      have htk := take_get vs z3 k (by rw [HV.out]; exact hlt)
      obtain ⟨⟨ua, ub, uc⟩, hu⟩ : ∃ v, vs.getD k z3 = v := ⟨_, rfl⟩
      rw [hu] at hc0 hc1 hc2 hfk hw1 hw2 hw3 htk
      clear hu hr1
      have HTK := Lib.hid htk; clear htk
      have kx : Blk (wr.alloc (.cells #[.int .i64 ua, .int .i64 ub, .int .i64 uc] 119)) wr.heap.size 119 #[.int .i64 ua, .int .i64 ub, .int .i64 uc] := Blk.new wr _ _
      have rx := kx.rule
      have hba := hbal.alloc (.cells #[.int .i64 ua, .int .i64 ub, .int .i64 uc] 119)
      have hbx : Below (w.heap.size + 1) (w.alloc (.cells #[.slice (some ⟨b, off, none⟩) n c] 37)) (wr.alloc (.cells #[.int .i64 ua, .int .i64 ub, .int .i64 uc] 119)) := hbel.alloc hsz _
      have hsx : w.heap.size + 1 ≤ (wr.alloc (.cells #[.int .i64 ua, .int .i64 ub, .int .i64 uc] 119)).heap.size := by simp; omega
      have hlk : (vs.take k).length < maxLen := by rw [List.length_take]; simp only [maxLen]; omega
      clear hbal
      go_wp2
      refine wp_region_any (by kernel_rfl) ?_
      change wpAny _ _ _ _ _ _ _ (World.drew _)
      refine wpAny_take (i := 0) (v := ?v0) rfl (by kernel_rfl) (by kernel_rfl) (by kernel_rfl) (fun _ _ _ h => h) (Or.inl ⟨by rfl, ?h0⟩) ?r0
      case h0 => intro w; go_simp; try with_reducible rfl
      case r0 =>
        refine wpAny_take (i := 3) (v := ?v3) rfl (by kernel_rfl) (by kernel_rfl) (by kernel_rfl) (fun _ _ _ h => h) (Or.inl ⟨by rfl, ?h3⟩) ?r3
        case h3 => intro w; go_simp; try with_reducible rfl
        case r3 =>
          refine wpAny_ready (rs := [1, 4]) (by kernel_rfl) (by simp) ?_
          refine AllReady.cons rfl (fun K hK => ?_) (AllReady.cons rfl (fun K hK => ?_) AllReady.nil)
          · go_simp
            refine hK _ _ ?_
            clear hK K
            refine wpAny_ready (rs := [2, 4]) (by kernel_rfl) (by simp) ?_
            refine AllReady.cons rfl (fun K hK => ?_) (AllReady.cons rfl (fun K hK => ?_) AllReady.nil)
            · skip
              go_simp
              go_at_call 131
              refine (placeOf_any ua ub uc _).mono ?_
              rintro e w2 ⟨rfl, hb2⟩
              have kx2 := (kx.drewN 1).on hb2
              have rx2 := kx2.rule
              refine hK _ _ ?_
              clear hK K
              refine wpAny_ready (rs := [4]) (by kernel_rfl) (by simp) ?_
              refine AllReady.cons rfl (fun K hK => ?_) AllReady.nil
              go_simp
              refine hK _ _ ?_
              clear hK K
              refine wpAny_ready (rs := [5]) (by kernel_rfl) (by simp) ?_
              refine AllReady.cons rfl (fun K hK => ?_) AllReady.nil
              refine step_store_bals rfl _ _ _ rfl w1.heap.size (vs.take k) (ua, ub, uc) rfl rfl rfl (hba.drew.on hb2) hlk hw1 hw2 hw3 hfk ?_
              intro w3 hb3 hg3
              refine hK _ _ ?_
              clear hK K
              refine ⟨by kernel_rfl, ?_⟩
              go_wp2
              go_roundw
              case rel =>
                refine ⟨k + 1, by omega, by go_num, by rw [HTK.out]; exact hb3, ?_⟩
                exact (hbx.drew.trans (hb2.mono (by simpa using hsx))).grown hg3 (Nat.le_trans hsx (by simpa using hb2.size)) (fun j hj => by injection hj with hj; omega)
              case measure => simp [intOf]; omega
            · go_simp
              refine hK _ _ ?_
              clear hK K
              refine wpAny_ready (rs := [2]) (by kernel_rfl) (by simp) ?_
              refine AllReady.cons rfl (fun K hK => ?_) AllReady.nil
              go_simp
              go_at_call 131
              refine (placeOf_any ua ub uc _).mono ?_
              rintro e w2 ⟨rfl, hb2⟩
              have kx2 := (kx.drewN 1).on hb2
              have rx2 := kx2.rule
              refine hK _ _ ?_
              clear hK K
              refine wpAny_ready (rs := [5]) (by kernel_rfl) (by simp) ?_
              refine AllReady.cons rfl (fun K hK => ?_) AllReady.nil
              refine step_store_bals rfl _ _ _ rfl w1.heap.size (vs.take k) (ua, ub, uc) rfl rfl rfl (hba.drew.on hb2) hlk hw1 hw2 hw3 hfk ?_
              intro w3 hb3 hg3
              refine hK _ _ ?_
              clear hK K
              refine ⟨by kernel_rfl, ?_⟩
              go_wp2
              go_roundw
              case rel =>
                refine ⟨k + 1, by omega, by go_num, by rw [HTK.out]; exact hb3, ?_⟩
                exact (hbx.drew.trans (hb2.mono (by simpa using hsx))).grown hg3 (Nat.le_trans hsx (by simpa using hb2.size)) (fun j hj => by injection hj with hj; omega)
              case measure => simp [intOf]; omega
          · go_simp
            refine hK _ _ ?_
            clear hK K
            refine wpAny_ready (rs := [1]) (by kernel_rfl) (by simp) ?_
            refine AllReady.cons rfl (fun K hK => ?_) AllReady.nil
            go_simp
            refine hK _ _ ?_
            clear hK K
            refine wpAny_ready (rs := [2]) (by kernel_rfl) (by simp) ?_
            refine AllReady.cons rfl (fun K hK => ?_) AllReady.nil
            go_simp
            go_at_call 131
            refine (placeOf_any ua ub uc _).mono ?_
            rintro e w2 ⟨rfl, hb2⟩
            have kx2 := (kx.drewN 1).on hb2
            have rx2 := kx2.rule
            refine hK _ _ ?_
            clear hK K
            refine wpAny_ready (rs := [5]) (by kernel_rfl) (by simp) ?_
            refine AllReady.cons rfl (fun K hK => ?_) AllReady.nil
            refine step_store_bals rfl _ _ _ rfl w1.heap.size (vs.take k) (ua, ub, uc) rfl rfl rfl (hba.drew.on hb2) hlk hw1 hw2 hw3 hfk ?_
            intro w3 hb3 hg3
            refine hK _ _ ?_
            clear hK K
            refine ⟨by kernel_rfl, ?_⟩
            go_wp2
            go_roundw
            case rel =>
              refine ⟨k + 1, by omega, by go_num, by rw [HTK.out]; exact hb3, ?_⟩
              exact (hbx.drew.trans (hb2.mono (by simpa using hsx))).grown hg3 (Nat.le_trans hsx (by simpa using hb2.size)) (fun j hj => by injection hj with hj; omega)
            case measure => simp [intOf]; omega
    · obtain rfl : k = n := by omega
      go_wp2
      refine bodyPost_ret (v := .tuple #[.map (some w1.heap.size), .bool true]) (by simp [results, Try.results120, go_sem]) rfl ?_
      refine ⟨_, rfl, by omega, ?_, hbw⟩
      rwa [← HV.out, List.take_length] at hbal

theorem ballotsOf_no (A : Option Addr) (c : Nat) (vs : List B3) (hq : tallyOkB vs = false) (w : World) (hr : Rd3 w w.heap.size A vs) (hn : vs.length ≤ 1048576) :
    Calls Try.prog 120 #[.agg #[.slice A vs.length c]] w fun e w' => e = .returned (.tuple #[.map none, .bool false]) ∧ Below w.heap.size w w' := by
  have hr0 := hr.up (.cells #[.slice A vs.length c] 37)
  have HR := Lib.hid hr0; clear hr0 hr
  go_enter Try.func120, Try.ntmps120
  go_wp2_with fail
  refine (implTallyOk_is false A c vs hq _ HR.out hn).mono ?_
  rintro e w1 ⟨rfl, hb1⟩
  have hB1 := on_ (up_ (Below.refl w.heap.size w) _) hb1
  clear hb1
  go_wp2
  refine bodyPost_ret (v := .tuple #[.map none, .bool false]) (by simp [results, Try.results120, go_sem]) rfl ?_
  exact ⟨rfl, hB1⟩

/-- The ballots of a valid tally; of another one none. -/
def goodL (vs : List B3) : List B3 := if tallyOkB vs then vs else []
theorem ballotsOf_any (A : Option Addr) (c : Nat) (vs : List B3) (w : World) (hr : Rd3 w w.heap.size A vs) (hn : vs.length ≤ 1048576) :
    Calls Try.prog 120 #[.agg #[.slice A vs.length c]] w fun e w' => ∃ o, e = .returned (.tuple #[.map o, .bool (tallyOkB vs)]) ∧ (∀ b, o = some b → w.heap.size ≤ b) ∧ Bals w' (.map o) (goodL vs) ∧ Below w.heap.size w w' := by
  rcases hq : tallyOkB vs with _ | _
  · refine (ballotsOf_no A c vs hq w hr hn).mono ?_
    rintro e w' ⟨rfl, hb⟩
    exact ⟨none, rfl, (fun b h => by cases h), Or.inl ⟨rfl, by simp [goodL, hq]⟩, hb⟩
  · refine (ballotsOf_yes A c vs hq w hr hn).mono ?_
    rintro e w' ⟨b, rfl, h1, h2, hb⟩
    refine ⟨some b, rfl, (fun b' h => by cases h; exact h1), ?_, hb⟩
    simpa [goodL, hq] using h2
end Go.Proofs.Ytfdfjmibjnmhpaa.V

namespace Go.Proofs.Ytfdfjmibjnmhpaa.B
open Go.RowKit
section
variable {P : Program} {Q : Exit → Act → World → Prop}
def GrowOk2 (P : Program) (ops : List Oper) (N : Nat) (F : (Nat → Value) → Act) (V : (Nat → Value) → Nat → Value → World → Prop) (w0 : World) (i : Nat) (o : Oper) : Prop :=
  ∀ (us : Nat → Value) (w : World), Below w0.heap.size w0 w → (∀ j, (j == i) = false → waitsB ops N i j = true → V us j (us j) w) → ∀ (Q : Exit → Act → World → Prop) (K : Act → World → Prop),
    (∀ a' w' v, a' = (F us).put o.dst v → Below w.heap.size w w' → V us i v w' → K a' w') →
      if Region.wanted o (yielded ops.toArray (F us).tmps) = true then Oper.wp P o (F us) w K Q else K ((F us).put o.dst undef) w
/-- As wp_region_grow; V may name what the operations have yielded that j waits for, near or far. -/
theorem wp_region_grow2 {id : Nat} {a : Act} {w : World} {l : List Oper} (N : Nat) (F : (Nat → Value) → Act) (hF : ∀ us, putL l us 0 a = F us) (V : (Nat → Value) → Nat → Value → World → Prop)
    (hm : P.follows .mixedOrders = true) (hlow : lowB 0 l = true) (hd : dstB l = true)
    (hV : ∀ us j u w1 w2, V us j u w1 → Below w1.heap.size w1 w2 → V us j u w2)
    (hloc : ∀ us us' j u wx, (∀ k, (k == j) = false → waitsB l N j k = true → us k = us' k) → V us j u wx → V us' j u wx)
    (hop : Each (GrowOk2 P l N F V w) 0 l)
    (hend : ∀ us w', (∀ i, i < l.length → V us i (us i) w') → Below w.heap.size w w' → Q .normal (F us) w') : (Code.region id l.toArray true).wp P Q a w := by
  obtain rfl : (fun us => putL l us 0 a) = F := funext hF
  refine wp_region_hold (fun us => putL l us 0 a) (fun L us wx => Shut l L ∧ Below w.heap.size w wx ∧ ∀ j, L j → V us j (us j) wx) (fun i => match l[i]? with | some o => cur a o | none => undef) hm hlow ?_ ?_ ⟨fun _ _ _ h => h.elim, (Below.refl _ _).drew, fun _ h => h.elim⟩ (Each.of_at fun i o ho L us wx hnL hdep hsh hI K hK => ?_) (fun L us w' hL hI => hend us w' (fun i hi => hI.2.2 i (hL i hi)) hI.2.1)
  · exact (putL_cur l _ 0 a fun i o ho => by rw [Nat.zero_add, ho]).symm
  · exact Each.of_at fun i o ho us v => by
      have := putL_at l us 0 i v a o hd ho
      rwa [Nat.zero_add] at this ⊢
  rw [Nat.zero_add] at hnL hK
  have h := Each.at_ hop ho
  rw [Nat.zero_add] at h
  have hsh2 : Shut l (fun j => j = i ∨ L j) := fun k o' hk hL j hj => by
    rcases hL with rfl | hL
    · rw [ho] at hk; injection hk with hk; subst hk
      exact .inr (hdep j hj)
    · exact .inr (hsh k o' hk hL j hj)
  refine h us wx hI.2.1 (fun j hji hj => hI.2.2 j ((hsh2.far N i j hj (.inl rfl)).resolve_left (by simpa using hji))) Q K fun a' w' v ha hb hv => hK a' w' v ha ⟨hsh2, hI.2.1.trans (hb.mono hI.2.1.size), fun j hj => ?_⟩
  by_cases e : j = i
  · subst e
    rw [upd_same]
    exact hloc us _ _ _ _ (fun k hk _ => (upd_ne (by simpa using hk)).symm) hv
  · rw [upd_ne e]
    have hLj := hj.resolve_left e
    refine hloc us _ _ _ _ (fun k hk hw => (upd_ne ?_).symm) (hV us j _ _ _ (hI.2.2 j hLj) hb)
    rintro rfl
    exact hnL (hsh.far N j k hw hLj)
end
end Go.Proofs.Ytfdfjmibjnmhpaa.B
