/-
  Plain lemmas on memory for the proofs of this seat: a slice of pairs of integers that reads as a list, and blocks that are kept. No statement is proved here.
-/
import Derived.WalkKit
import Derived.ProofKit
import Derived.OpenShut
import Derived.Lib.Hide
import Derived.Deep.Slices
import Derived.Deep.Fields
import Derived.Deep.Draws
import Derived.Deep.QuietTactic
import Derived.BigQuiet
import Derived.Deep.OwnRows
import Derived.Lib.SmallJoins
namespace Go.Proofs.Ytfdfjmibjnmhpaa.B
open Go.RowKit Go.ChangeShapes Go.WideShapes Go.Deep

/-- A slice value at address A reads, below block Bd, as the pairs vs: pair i lies in the cells 2i and 2i+1. -/
def Rd (w : World) (Bd : Nat) (A : Option Addr) (vs : List (Int × Int)) : Prop :=
  0 < vs.length → ∃ b off, A = some ⟨b, off, none⟩ ∧ b < Bd ∧
    ∀ i, i < vs.length → w.cell? ⟨b, off + i * 2, none⟩ = some (.int .i64 (vs.getD i (0, 0)).1) ∧ w.cell? ⟨b, off + i * 2 + 1, none⟩ = some (.int .i64 (vs.getD i (0, 0)).2)

section
variable {w w' : World} {Bd Bd' : Nat} {A : Option Addr} {vs : List (Int × Int)}
theorem Rd.keep (h : Rd w Bd A vs) (hk : ∀ b o, b < Bd → w'.cell? ⟨b, o, none⟩ = w.cell? ⟨b, o, none⟩) : Rd w' Bd A vs := fun hn => by
  obtain ⟨b, off, e, hb, hc⟩ := h hn
  exact ⟨b, off, e, hb, fun i hi => ⟨(hk _ _ hb).trans (hc i hi).1, (hk _ _ hb).trans (hc i hi).2⟩⟩
theorem Rd.more (h : Rd w Bd A vs) (hB : Bd ≤ Bd') : Rd w Bd' A vs := fun hn => by
  obtain ⟨b, off, e, hb, hc⟩ := h hn
  exact ⟨b, off, e, by omega, hc⟩
theorem Rd.below (h : Rd w Bd A vs) (hb : Below Bd w w') : Rd w' Bd A vs := h.keep fun _ _ hp => hb.cell hp
theorem Rd.drewN (h : Rd w Bd A vs) (k : Nat) : Rd (w.drewN k) Bd A vs := h
theorem Rd.alloc (h : Rd w Bd A vs) (hB : Bd ≤ w.heap.size) (o : Obj) : Rd (w.alloc o) Bd A vs := h.keep fun b o' hp => World.cell?_alloc_lt w o ⟨b, o', none⟩ (by simpa using (show b < w.heap.size by omega))
theorem Rd.nil_ : Rd w Bd A [] := fun h => absurd h (by simp)
end

/-- Block g is just the cells cs of element type t, none frozen. -/
def Blk (w : World) (g : Nat) (t : TypeId) (cs : Array Value) : Prop := w.heap[g]? = some (.cells cs t (0, 0))
section
variable {w w' : World} {g : Nat} {t : TypeId} {cs : Array Value}
theorem Blk.lt (h : Blk w g t cs) : g < w.heap.size := by
  rcases Nat.lt_or_ge g w.heap.size with hlt | hge
  · exact hlt
  · unfold Blk at h; rw [Array.getElem?_eq_none hge] at h; cases h
theorem Blk.cell (h : Blk w g t cs) (i : Nat) : w.cell? ⟨g, i, none⟩ = cs[i]? := cell_of_row w g i cs t (0, 0) h
theorem Blk.frozen (h : Blk w g t cs) (i : Nat) : w.frozen? ⟨g, i, none⟩ = false := by
  unfold Blk at h
  simp [World.frozen?, h]
theorem Blk.new (w : World) (t : TypeId) (cs : Array Value) : Blk (w.alloc (.cells cs t)) w.heap.size t cs := heap_alloc_new w _
theorem Blk.drewN (h : Blk w g t cs) (n : Nat) : Blk (w.drewN n) g t cs := h
theorem Blk.alloc (h : Blk w g t cs) (o : Obj) : Blk (w.alloc o) g t cs := (Below.heap_alloc w o g h.lt).trans h
theorem Blk.set_ (h : Blk w g t cs) (i : Nat) (u : Value) : Blk (w.setCell ⟨g, i, none⟩ u) g t (cs.setIfInBounds i u) := by
  unfold Blk at h ⊢
  simp [World.setCell, Array.getElem?_modify, h]
theorem Blk.far (h : Blk w g t cs) {p : Addr} (hp : g ≠ p.block) (u : Value) : Blk (w.setCell p u) g t cs := (Below.heap_setCell w p u g hp).trans h
theorem Blk.below {Bd : Nat} (h : Blk w g t cs) (hb : Below Bd w w') (hg : g < Bd) : Blk w' g t cs := (hb.block g hg).trans h
end

/-- The first k pairs of vs stand in the cells cs, which has room for all of vs. -/
def PC (cs : Array Value) (vs : List (Int × Int)) (k : Nat) : Prop :=
  cs.size = vs.length * 2 ∧ ∀ i, i < k → cs[i * 2]? = some (.int .i64 (vs.getD i (0, 0)).1) ∧ cs[i * 2 + 1]? = some (.int .i64 (vs.getD i (0, 0)).2)

theorem PC.zero {cs : Array Value} {vs : List (Int × Int)} (h : cs.size = vs.length * 2) : PC cs vs 0 := ⟨h, fun i hi => absurd hi (by omega)⟩
theorem PC.step {cs : Array Value} {vs : List (Int × Int)} {k : Nat} (h : PC cs vs k) (hk : k < vs.length) :
    PC ((cs.setIfInBounds (k * 2) (.int .i64 (vs.getD k (0, 0)).1)).setIfInBounds (k * 2 + 1) (.int .i64 (vs.getD k (0, 0)).2)) vs (k + 1) := by
  refine ⟨by simpa using h.1, fun i hi => ?_⟩
  have hs := h.1
  by_cases e : i = k
  · subst e
    constructor
    · rw [Array.getElem?_setIfInBounds_ne (by omega), Array.getElem?_setIfInBounds_self_of_lt (by omega)]
    · rw [Array.getElem?_setIfInBounds_self_of_lt (by simp; omega)]
  · have := h.2 i (by omega)
    constructor
    · rw [Array.getElem?_setIfInBounds_ne (by omega), Array.getElem?_setIfInBounds_ne (by omega)]; exact this.1
    · rw [Array.getElem?_setIfInBounds_ne (by omega), Array.getElem?_setIfInBounds_ne (by omega)]; exact this.2
theorem PC.rd {w : World} {g t Bd : Nat} {cs : Array Value} {vs : List (Int × Int)} (h : PC cs vs vs.length) (hb : Blk w g t cs) (hg : g < Bd) : Rd w Bd (some ⟨g, 0, none⟩) vs :=
  fun _ => ⟨g, 0, rfl, hg, fun i hi => by
    have := h.2 i hi
    constructor
    · rw [Nat.zero_add, hb.cell]; exact this.1
    · rw [Nat.zero_add, hb.cell]; exact this.2⟩

/-- make([]T, n) for elements of any number of cells -/
theorem run_make_rowN {P : Program} (t e : TypeId) (i : TypeInfo) (z : Value) (ht : P.underlying t = some (.slice e)) (hi : P.info? e = some i) (hz : i.zero = some z)
    (kl kc : IntKind) (n c : Nat) (hnc : n ≤ c) (hbytes : i.bytes * c ≤ 281474976710656) (h63 : c ≤ 9223372036854775807) (w : World) :
    (Instr.makeSlice t (.int kl (n : Int)) (.int kc (c : Int))).run P w = .ok (.slice (some ⟨w.heap.size, 0, none⟩) n c) (w.alloc (.cells (madeCells z.cells (c * i.size)) e)) := by
  have hb : (i.bytes : Int) * (c : Int) ≤ 281474976710656 := by
    have h : ((i.bytes * c : Nat) : Int) ≤ 281474976710656 := by omega
    rwa [Int.natCast_mul] at h
  have hr := run_make (P := P) w t e i z ht hi hz kl kc n c (by omega) (by omega) hb (by omega)
  simp only [Int.toNat_natCast] at hr
  exact hr

/-- The two rules that the walk wants behind a contract that ends in 'Below'. -/
theorem bcell {W w1 : World} (hb : Below W.heap.size W w1) : (∀ b o, b < W.heap.size → w1.cell? ⟨b, o, none⟩ = W.cell? ⟨b, o, none⟩) ∧ (∀ b o, b < W.heap.size → w1.frozen? ⟨b, o, none⟩ = W.frozen? ⟨b, o, none⟩) :=
  ⟨fun b o h => hb.cell (p := ⟨b, o, none⟩) h, fun b o h => hb.frozen (p := ⟨b, o, none⟩) h⟩

/-- Behind a call that ends in 'Below' each cell that was there reads as it did. -/
def Keeps (w w' : World) : Prop := ∀ (p : Addr) (v : Value), w.cell? p = some v → w'.cell? p = some v
theorem Keeps.of {w w' : World} (h : Below w.heap.size w w') : Keeps w w' := fun p _ hp => (h.cell (World.block_lt_of_cell? w p hp)).trans hp

/-! A region that draws its order, whose operations read old memory and call functions that make new memory but hand back one fixed value: one walk of the order of the text. The class of worlds: 'what was there when the region began is as it was'. -/
structure Lat (W0 : World) where
  w : World
  below : Below W0.heap.size W0 w
instance (W0 : World) : Nonempty (Lat W0) := ⟨⟨W0, Below.refl _ _⟩⟩

section
variable {P : Program} {W0 : World}
theorem wp_region_lat {id : Nat} {Q : Exit → Act → World → Prop} {a : Act} {l : List Oper} (hm : P.follows .mixedOrders = true) (hB : Region.lexB .any l.toArray = true)
    (h : wpQuiet P l.toArray (fun w' => ∃ x : Lat W0, w' = x.w) (fun a' => ∀ w', (∃ x : Lat W0, w' = x.w) → Q .normal a' w') l a) : (Code.region id l.toArray true).wp P Q a W0 :=
  wp_region_quiet (C := fun w' => ∃ x : Lat W0, w' = x.w) hm hB ⟨⟨W0.drew, (Below.refl _ _).drew⟩, rfl⟩ (by simpa using h)
theorem lat_call {f : FuncId} {args : Array Value} (x : Lat W0) {v : Value} (h : Calls P f args x.w fun e w' => e = .returned v ∧ Below x.w.heap.size x.w w') :
    Calls P f args x.w fun e w'' => e = .returned v ∧ ∃ y : Lat W0, w'' = y.w :=
  h.mono fun _ w' ⟨he, hb⟩ => ⟨he, ⟨w', x.below.trans (hb.mono x.below.size)⟩, rfl⟩
theorem lat_same {f : FuncId} {args : Array Value} (x : Lat W0) {v : Value} (h : Calls P f args x.w fun e w' => e = .returned v ∧ w' = x.w) :
    Calls P f args x.w fun e w'' => e = .returned v ∧ ∃ y : Lat W0, w'' = y.w :=
  h.mono fun _ _ ⟨he, hb⟩ => ⟨he, x, hb⟩
theorem Lat.cell (x : Lat W0) {p : Addr} {v : Value} (h : W0.cell? p = some v) : x.w.cell? p = some v := (x.below.cell (World.block_lt_of_cell? W0 p h)).trans h
theorem lat_blk {g : Nat} {t : TypeId} {cs : Array Value} (h : Blk W0 g t cs) : ∀ (x : Lat W0) (i : Nat), x.w.cell? ⟨g, i, none⟩ = cs[i]? := fun x i => (h.below x.below h.lt).cell i
end

end Go.Proofs.Ytfdfjmibjnmhpaa.B
