/-
  Rows of elements of one size, each with parts that lie elsewhere: how they read, how they are copied one by one, how much they hold. Generic; no statement is proved here.
-/
import Derived.Test.YtfdfjmibjnmhpaaRp
set_option linter.unusedVariables false
set_option maxRecDepth 100000
namespace Go.Proofs.Ytfdfjmibjnmhpaa.B
open Go.RowKit

/-- How an element of a kind lies in memory: its cells, and how its parts read. -/
structure Knd (α : Type) where
  s : Nat
  cells : α → Array Value
  rd : World → Nat → α → Prop
  z : α
  pos : 0 < s
  size : ∀ p, (cells p).size = s
  keep : ∀ {w w' : World} {Bd : Nat} {p : α}, rd w Bd p → (∀ b o, b < Bd → w'.cell? ⟨b, o, none⟩ = w.cell? ⟨b, o, none⟩) → rd w' Bd p
  more : ∀ {w : World} {Bd Bd' : Nat} {p : α}, rd w Bd p → Bd ≤ Bd' → rd w Bd' p
  own : World → Nat → α → Prop
  okeep : ∀ {w w' : World} {lo : Nat} {p : α}, own w lo p → (∀ g, lo ≤ g → g < w.heap.size → w'.heap[g]? = w.heap[g]?) → own w' lo p
  olow : ∀ {w : World} {lo lo' : Nat} {p : α}, own w lo p → lo' ≤ lo → own w lo' p

section
variable {α : Type} {K : Knd α} {w w' w1 : World} {Bd Bd' lo lo' n : Nat} {A : Option Addr} {xs : List α} {p : α}
/-- A slice value at address A reads, below block Bd, as xs. -/
def RdK (K : Knd α) (w : World) (Bd : Nat) (A : Option Addr) (xs : List α) : Prop :=
  0 < xs.length → ∃ b off, A = some ⟨b, off, none⟩ ∧ b < Bd ∧ ∀ i, i < xs.length → (∀ j, j < K.s → w.cell? ⟨b, off + i * K.s + j, none⟩ = (K.cells (xs.getD i K.z))[j]?) ∧ K.rd w Bd (xs.getD i K.z)
theorem RdK.keep (h : RdK K w Bd A xs) (hk : ∀ b o, b < Bd → w'.cell? ⟨b, o, none⟩ = w.cell? ⟨b, o, none⟩) : RdK K w' Bd A xs := fun hn => by
  obtain ⟨b, off, e, hb, hc⟩ := h hn
  exact ⟨b, off, e, hb, fun i hi => ⟨fun j hj => (hk _ _ hb).trans ((hc i hi).1 j hj), K.keep (hc i hi).2 hk⟩⟩
theorem RdK.more (h : RdK K w Bd A xs) (hB : Bd ≤ Bd') : RdK K w Bd' A xs := fun hn => by
  obtain ⟨b, off, e, hb, hc⟩ := h hn
  exact ⟨b, off, e, by omega, fun i hi => ⟨(hc i hi).1, K.more (hc i hi).2 hB⟩⟩
theorem RdK.below (h : RdK K w Bd A xs) (hb : Below Bd w w') : RdK K w' Bd A xs := h.keep fun _ _ hp => hb.cell hp
theorem RdK.alloc (h : RdK K w Bd A xs) (hB : Bd ≤ w.heap.size) (o : Obj) : RdK K (w.alloc o) Bd A xs := h.keep fun b o' hp => World.cell?_alloc_lt w o ⟨b, o', none⟩ (by simpa using (show b < w.heap.size by omega))
theorem RdK.on (h : RdK K w w.heap.size A xs) (hb : Below w.heap.size w w') : RdK K w' w'.heap.size A xs := (h.below hb).more hb.size
theorem RdK.up (h : RdK K w w.heap.size A xs) (O : Obj) : RdK K (w.alloc O) (w.alloc O).heap.size A xs := (h.alloc (Nat.le_refl _) O).more (by simp)
theorem RdK.dr (h : RdK K w w.heap.size A xs) : RdK K w.drew w.drew.heap.size A xs := h.keep fun _ _ _ => rfl
theorem RdK.nil_ : RdK K w Bd A [] := fun h => absurd h (by simp)
theorem RdK.at_ (h : RdK K w Bd A xs) {k : Nat} (hk : k < xs.length) : ∃ b off, A = some ⟨b, off, none⟩ ∧ b < Bd ∧ (∀ j, j < K.s → w.cell? ⟨b, off + k * K.s + j, none⟩ = (K.cells (xs.getD k K.z))[j]?) ∧ K.rd w Bd (xs.getD k K.z) := by
  obtain ⟨b, off, rfl, hb, hc⟩ := h (by omega)
  exact ⟨b, off, rfl, hb, (hc k hk).1, (hc k hk).2⟩

/-- A reading that turns on no block below lo. -/
def Hi (R : World → Nat → Prop) (w : World) (lo : Nat) : Prop := ∀ w' : World, (∀ b o, lo ≤ b → b < w.heap.size → w'.cell? ⟨b, o, none⟩ = w.cell? ⟨b, o, none⟩) → R w' w.heap.size
theorem Hi.rd {R : World → Nat → Prop} (h : Hi R w lo) : R w w.heap.size := h w fun _ _ _ _ => rfl
theorem Hi.keep {R : World → Nat → Prop} (hm : ∀ {w : World} {Bd Bd' : Nat}, R w Bd → Bd ≤ Bd' → R w Bd') (h : Hi R w lo) (hs : w.heap.size ≤ w1.heap.size) (hk : ∀ b o, lo ≤ b → b < w.heap.size → w1.cell? ⟨b, o, none⟩ = w.cell? ⟨b, o, none⟩) : Hi R w1 lo := fun w' h' =>
  hm (h w' fun b o h1 h2 => (h' b o h1 (by omega)).trans (hk b o h1 h2)) hs
theorem Hi.low {R : World → Nat → Prop} (h : Hi R w lo) (hl : lo' ≤ lo) : Hi R w lo' := fun w' h' => h w' fun b o h1 h2 => h' b o (by omega) h2
/-- A row in a block of its own from lo on, and what its elements own. -/
def OwnX (K : Knd α) (w : World) (lo : Nat) (A : Option Addr) (xs : List α) : Prop :=
  0 < xs.length → ∃ (t : TypeId) (g : Nat) (cs : Array Value), A = some ⟨g, 0, none⟩ ∧ lo ≤ g ∧ Blk w g t cs ∧ xs.length * K.s ≤ cs.size ∧ ∀ i, i < xs.length → (∀ j, j < K.s → cs[i * K.s + j]? = (K.cells (xs.getD i K.z))[j]?) ∧ K.own w lo (xs.getD i K.z)
theorem OwnX.keep (h : OwnX K w lo A xs) (hk : ∀ g, lo ≤ g → g < w.heap.size → w'.heap[g]? = w.heap[g]?) : OwnX K w' lo A xs := fun h0 => by
  obtain ⟨t, g, cs, e, hg, hb, hz, hc⟩ := h h0
  exact ⟨t, g, cs, e, hg, (hk g hg hb.lt).trans hb, hz, fun i hi => ⟨(hc i hi).1, K.okeep (hc i hi).2 hk⟩⟩
theorem OwnX.low (h : OwnX K w lo A xs) (hl : lo' ≤ lo) : OwnX K w lo' A xs := fun h0 => by
  obtain ⟨t, g, cs, e, hg, hb, hz, hc⟩ := h h0
  exact ⟨t, g, cs, e, by omega, hb, hz, fun i hi => ⟨(hc i hi).1, K.olow (hc i hi).2 hl⟩⟩
/-- The parts of an element, in blocks of their own from lo on. -/
def HiK (K : Knd α) (w : World) (lo : Nat) (p : α) : Prop := Hi (fun w Bd => K.rd w Bd p) w lo ∧ K.own w lo p
theorem HiK.on (h : HiK K w lo p) (hb : Below w.heap.size w w1) : HiK K w1 lo p := ⟨Hi.keep (fun h => K.more h) h.1 hb.size fun b o _ h2 => hb.cell (p := ⟨b, o, none⟩) h2, K.okeep h.2 fun g _ h2 => hb.block g h2⟩
theorem HiK.set_ (h : HiK K w lo p) {q : Addr} (hp : q.block < lo) (u : Value) : HiK K (w.setCell q u) lo p :=
  ⟨Hi.keep (fun h => K.more h) h.1 (by simp [World.setCell]) fun b o h1 _ => World.cell?_setCell_other w q ⟨b, o, none⟩ u (fun e => by subst e; simp at hp; omega), K.okeep h.2 fun g h1 _ => Below.heap_setCell w q u g (by omega)⟩
theorem HiK.low (h : HiK K w lo p) (hl : lo' ≤ lo) : HiK K w lo' p := ⟨Hi.low h.1 hl, K.olow h.2 hl⟩
theorem HiK.rd (h : HiK K w lo p) : K.rd w w.heap.size p := Hi.rd h.1

/-- Values stored one behind the other. -/
def putA (cs : Array Value) : Nat → List Value → Array Value
  | _, [] => cs
  | k, v :: vs => putA (cs.setIfInBounds k v) (k + 1) vs
def putW (w : World) (g : Nat) : Nat → List Value → World
  | _, [] => w
  | k, v :: vs => putW (w.setCell ⟨g, k, none⟩ v) g (k + 1) vs
theorem putA_size : ∀ (cs : Array Value) (k : Nat) (vs : List Value), (putA cs k vs).size = cs.size
  | _, _, [] => rfl
  | cs, k, v :: vs => by rw [putA, putA_size, Array.size_setIfInBounds]
theorem putA_far : ∀ (cs : Array Value) (k : Nat) (vs : List Value) (m : Nat), m < k → (putA cs k vs)[m]? = cs[m]?
  | _, _, [], _, _ => rfl
  | cs, k, v :: vs, m, h => by rw [putA, putA_far _ _ _ _ (by omega), Array.getElem?_setIfInBounds_ne (by omega)]
theorem putA_past : ∀ (cs : Array Value) (k : Nat) (vs : List Value) (m : Nat), k + vs.length ≤ m → (putA cs k vs)[m]? = cs[m]?
  | _, _, [], _, _ => rfl
  | cs, k, v :: vs, m, h => by
    simp only [List.length_cons] at h
    rw [putA, putA_past _ _ _ _ (by omega), Array.getElem?_setIfInBounds_ne (by omega)]
theorem putA_at : ∀ (cs : Array Value) (k : Nat) (vs : List Value) (j : Nat), k + vs.length ≤ cs.size → j < vs.length → (putA cs k vs)[k + j]? = vs[j]?
  | _, _, [], _, _, h => absurd h (by simp)
  | cs, k, v :: vs, 0, h, _ => by
    simp only [List.length_cons] at h
    rw [putA, putA_far _ _ _ _ (by omega)]
    simp only [Nat.add_zero]
    rw [Array.getElem?_setIfInBounds_self_of_lt (by omega)]
    rfl
  | cs, k, v :: vs, j + 1, h, hj => by
    simp only [List.length_cons] at h hj
    rw [putA, show k + (j + 1) = k + 1 + j by omega, putA_at _ _ _ _ (by simp; omega) (by omega)]
    rfl
theorem Blk.putW : ∀ {w : World} {g : Nat} {t : TypeId} {cs : Array Value} (k : Nat) (vs : List Value), Blk w g t cs → Blk (B.putW w g k vs) g t (putA cs k vs)
  | _, _, _, _, _, [], h => h
  | _, _, _, _, k, v :: vs, h => Blk.putW (k + 1) vs (h.set_ k v)
theorem HiK.putW : ∀ {w : World} {g lo : Nat} {p : α} (k : Nat) (vs : List Value), HiK K w lo p → g < lo → HiK K (B.putW w g k vs) lo p
  | _, _, _, _, _, [], h, _ => h
  | _, _, _, _, k, v :: vs, h, hg => HiK.putW (k + 1) vs (h.set_ hg v) hg
theorem Below.putW : ∀ {Bd : Nat} {a w : World} {g : Nat} (k : Nat) (vs : List Value), Below Bd a w → Bd ≤ g → Below Bd a (B.putW w g k vs)
  | _, _, _, _, _, [], h, _ => h
  | _, _, _, _, k, v :: vs, h, hg => Below.putW (k + 1) vs (h.setCell hg v) hg
theorem size_putW : ∀ {w : World} {g : Nat} (k : Nat) (vs : List Value), (B.putW w g k vs).heap.size = w.heap.size
  | _, _, _, [] => rfl
  | w, g, k, v :: vs => by rw [B.putW, size_putW]; simp [World.setCell]

/-- The first k of n, copied to the block g. -/
def CpK {β : Type} (K : Knd α) (dat : α → β) (w : World) (g n : Nat) (cs : Array Value) (xs qs : List α) (k : Nat) : Prop :=
  qs.length = k ∧ qs.map dat = (xs.map dat).take k ∧ cs.size = n * K.s ∧ ∀ i, i < k → (∀ j, j < K.s → cs[i * K.s + j]? = (K.cells (qs.getD i K.z))[j]?) ∧ HiK K w (g + 1) (qs.getD i K.z)
section
variable {β : Type} {dat : α → β} {g : Nat} {cs : Array Value} {qs : List α} {k : Nat}
theorem CpK.zero (h : cs.size = n * K.s) : CpK K dat w g n cs xs [] 0 := ⟨rfl, by simp, h, fun i hi => absurd hi (by omega)⟩
theorem CpK.step (h : CpK K dat w g n cs xs qs k) (hk : k < n) (hn : xs.length = n) (u : α) (hu : dat u = dat (xs.getD k K.z)) (hb : Below w.heap.size w w1) (hg : HiK K w1 (g + 1) u) :
    CpK K dat (putW w1 g (k * K.s) (K.cells u).toList) g n (putA cs (k * K.s) (K.cells u).toList) xs (qs ++ [u]) (k + 1) := by
  obtain ⟨h1, h2, h3, h4⟩ := h
  have hl : (K.cells u).toList.length = K.s := by simpa using K.size u
  have hm : k * K.s + K.s ≤ cs.size := by
    rw [h3, show k * K.s + K.s = (k + 1) * K.s by rw [Nat.succ_mul]]
    exact Nat.mul_le_mul_right _ (by omega)
  refine ⟨by simp [h1], ?_, by rw [putA_size]; exact h3, fun i hi => ?_⟩
  · have hk' : k < (xs.map dat).length := by simp; omega
    rw [List.take_succ_eq_append_getElem hk', ← h2, List.map_append, List.map_cons, List.map_nil, hu]
    congr 2
    simp [List.getD_eq_getElem?_getD, List.getElem?_eq_getElem (show k < xs.length by omega)]
  · by_cases e : i = k
    · subst e
      rw [getD_app_end h1]
      refine ⟨fun j hj => ?_, hg.putW _ _ (by omega)⟩
      rw [putA_at _ _ _ _ (by omega) (by omega)]
      simp
    · rw [getD_app_lt (by omega)]
      refine ⟨fun j hj => ?_, ((h4 i (by omega)).2.on hb).putW _ _ (by omega)⟩
      rw [putA_far _ _ _ _ ?_]
      · exact (h4 i (by omega)).1 j hj
      · have : (i + 1) * K.s ≤ k * K.s := Nat.mul_le_mul_right _ (by omega)
        rw [Nat.succ_mul] at this
        omega
theorem CpK.rd {t : TypeId} (h : CpK K dat w g n cs xs qs n) (hb : Blk w g t cs) : RdK K w w.heap.size (some ⟨g, 0, none⟩) qs := fun _ =>
  ⟨g, 0, rfl, hb.lt, fun i hi => ⟨fun j hj => by
    rw [Nat.zero_add, hb.cell]
    exact (h.2.2.2 i (by rw [h.1] at hi; exact hi)).1 j hj, (h.2.2.2 i (by rw [h.1] at hi; exact hi)).2.rd⟩⟩
theorem CpK.hi {t : TypeId} (h : CpK K dat w g n cs xs qs n) (hb : Blk w g t cs) (hl : lo ≤ g) : Hi (fun w Bd => RdK K w Bd (some ⟨g, 0, none⟩) qs) w lo := fun w' hk _ =>
  ⟨g, 0, rfl, hb.lt, fun i hi => ⟨fun j hj => by
    rw [Nat.zero_add, hk g _ hl hb.lt, hb.cell]
    exact (h.2.2.2 i (by rw [h.1] at hi; exact hi)).1 j hj, (h.2.2.2 i (by rw [h.1] at hi; exact hi)).2.1 w' fun b o h1 h2 => hk b o (by omega) h2⟩⟩
theorem CpK.own {t : TypeId} (h : CpK K dat w g n cs xs qs n) (hb : Blk w g t cs) (hl : lo ≤ g) : OwnX K w lo (some ⟨g, 0, none⟩) qs := fun _ =>
  ⟨t, g, cs, rfl, hl, hb, by rw [h.1, h.2.2.1]; exact Nat.le_refl _, fun i hi => ⟨(h.2.2.2 i (by rw [h.1] at hi; exact hi)).1, K.olow (h.2.2.2 i (by rw [h.1] at hi; exact hi)).2.2 (by omega)⟩⟩
theorem CpK.same (h : CpK K dat w g n cs xs qs n) (hn : xs.length = n) : qs.map dat = xs.map dat := by
  rw [h.2.1, List.take_of_length_le (by simp; omega)]
theorem same_len {xs ys : List α} (h : ys.map dat = xs.map dat) : ys.length = xs.length := by simpa using congrArg List.length h
theorem same_at {xs ys : List α} {z : α} (h : ys.map dat = xs.map dat) (k : Nat) : dat (ys.getD k z) = dat (xs.getD k z) := by
  have hm : ∀ l : List α, (l.map dat).getD k (dat z) = dat (l.getD k z) := fun l => by
    simp only [List.getD_eq_getElem?_getD, List.getElem?_map]
    cases l[k]? <;> rfl
  rw [← hm, h, hm]
end

/-- How much the first k hold. -/
def tkS (f : α → Nat) (z : α) (xs : List α) : Nat → Nat
  | 0 => 0
  | k + 1 => tkS f z xs k + f (xs.getD k z)
theorem tkS_mono (f : α → Nat) (z : α) (xs : List α) {i j : Nat} (h : i ≤ j) : tkS f z xs i ≤ tkS f z xs j := by
  induction j with
  | zero => obtain rfl : i = 0 := by omega
            exact Nat.le_refl _
  | succ j ih =>
    by_cases e : i = j + 1
    · subst e; exact Nat.le_refl _
    · have := ih (by omega)
      simp only [tkS]; omega
theorem tkS_one (f : α → Nat) (z : α) (xs : List α) {i j : Nat} (h : i < j) : f (xs.getD i z) ≤ tkS f z xs j := by
  have := tkS_mono f z xs (show i + 1 ≤ j by omega)
  simp only [tkS] at this
  omega
end
end Go.Proofs.Ytfdfjmibjnmhpaa.B
